/-
  Several texts in one: BigK2, BigK3, BigPart2, BigQuo, BigMod. What each holds stands at its head. Conditions: in each statement.
-/
import Derived.Test.YtfngomlknhappaaDoorKl
import Derived.Test.YtfngomlknhappaaDoorKd
import Derived.Test.YtfngomlknhappaaDoorKk
import Derived.Deep.CutBlock

/-
  The guess of a digit, at a place of the dividend: plain mathematics. No program is named here. Conditions: in the statement.
-/
namespace Go.Proofs.YtfngomlknhappaaDoor.BigK
open BigW BigNewW BigMulW BigM

/-- Three digits on top of the rest. -/
theorem win_top2 (u : List Nat) (k i : Nat) (h : k + i + 1 < u.length) : win u k (i + 2) = win u k i + 4294967296 ^ i * (u.getD (k + i) 0 + 4294967296 * u.getD (k + i + 1) 0) := by
  rw [win_succ u k (i + 1) (by omega), win_succ u k i (by omega), Nat.pow_succ, Nat.mul_add, ← Nat.mul_assoc, Nat.add_assoc]
  rfl
theorem letters_lt {a b c r U : Nat} (h4 : a + r = c + b) (h3 : r + U < b) : c + U < a := by omega
theorem letters_le {a b c r U : Nat} (h4 : a + r = c + b) (h3 : b ≤ r + U) : a ≤ c + U := by omega
theorem guess_core {U0 U1 U2 v1 v2 B R S V W : Nat} (hbig : 2147483648 ≤ v1) (hU0 : U0 < 4294967296) (hR : R < B) (hS : S < B) (eV : V = (v1 * 4294967296 + v2) * B + S) (eW : W = ((U2 * 4294967296 + U1) * 4294967296 + U0) * B + R) (hWl : W < V * 4294967296) :
    (∀ h, U2 * 4294967296 + U1 < h * v1 → W / V < h) ∧ (∀ h r, h * v1 + r = U2 * 4294967296 + U1 → (4294967296 ≤ h ∨ r * 4294967296 + U0 < h * v2) → W / V < h) ∧ (∀ h r, h * v1 + r = U2 * 4294967296 + U1 → h < 4294967296 → h * v2 ≤ r * 4294967296 + U0 → h ≤ W / V + 1) := by
  have hbB : 4294967296 * B ≤ V := by
    have h3 : 4294967296 * B ≤ (v1 * 4294967296 + v2) * B := Nat.mul_le_mul_right B (by omega)
    omega
  have hV0 : 0 < V := by omega
  have hqW : W / V * V ≤ W := Nat.div_mul_le_self W V
  have hqL : W / V < 4294967296 := by rw [Nat.div_lt_iff_lt_mul hV0, Nat.mul_comm]; exact hWl
  have hWq : W < (W / V + 1) * V := by
    have h3 := Nat.div_add_mod W V
    have h4 := Nat.mod_lt W hV0
    rw [Nat.add_mul, Nat.one_mul, Nat.mul_comm]
    omega
  have key : ∀ h r, h * v1 + r = U2 * 4294967296 + U1 → h * (v1 * 4294967296 + v2) + r * 4294967296 = (U2 * 4294967296 + U1) * 4294967296 + h * v2 := by
    intro h r e
    rw [← e, Nat.mul_add, Nat.add_mul, Nat.mul_assoc]
    omega
  refine ⟨fun h hh => guess_ge (U3 := U2 * 4294967296 + U1) (V2 := v1) (B := 4294967296 * B) (R := U0 * B + R) (S := v2 * B + S) ?_ ?_ ?_ hqW hh, ?_, ?_⟩
  · rw [eW, Nat.add_mul _ U0, Nat.mul_assoc, Nat.add_assoc]
  · rw [eV, Nat.add_mul _ v2, Nat.mul_assoc, Nat.add_assoc]
  · have h3 : (U0 + 1) * B ≤ 4294967296 * B := Nat.mul_le_mul_right B (by omega)
    rw [Nat.add_mul, Nat.one_mul] at h3
    omega
  · intro h r e hc
    rcases hc with h3 | h3
    · exact Nat.lt_of_lt_of_le hqL h3
    · refine guess_ge eW eV hR hqW ?_
      have h4 := key h r e
      exact letters_lt h4 h3
  · intro h r e hb hc
    refine guess_le eW eV hS hb hbB ?_ hWq
    have h4 := key h r e
    exact letters_le h4 hc
/-- What holds of the guesses at place k, by a divisor of i + 2 digits. -/
structure Guess (u v : List Nat) (k i V W : Nat) : Prop where
  win : W = win u k (i + 3)
  val : W = dval (u.drop k)
  lt : W < V * 4294967296
  big : 2147483648 ≤ v.getD (i + 1) 0
  top : u.getD (k + i + 2) 0 * 4294967296 + u.getD (k + i + 1) 0 ≤ v.getD (i + 1) 0 * 4294967296 + 4294967295
  fst : ∀ h, u.getD (k + i + 2) 0 * 4294967296 + u.getD (k + i + 1) 0 < h * v.getD (i + 1) 0 → W / V < h
  ge : ∀ h r, h * v.getD (i + 1) 0 + r = u.getD (k + i + 2) 0 * 4294967296 + u.getD (k + i + 1) 0 → (4294967296 ≤ h ∨ r * 4294967296 + u.getD (k + i) 0 < h * v.getD i 0) → W / V < h
  le : ∀ h r, h * v.getD (i + 1) 0 + r = u.getD (k + i + 2) 0 * 4294967296 + u.getD (k + i + 1) 0 → h < 4294967296 → h * v.getD i 0 ≤ r * 4294967296 + u.getD (k + i) 0 → h ≤ W / V + 1
theorem guess {u v : List Nat} {k i V : Nat} (su : Sd u) (sv : Sd v) (hk : k + i + 2 < u.length) (hv : i + 2 ≤ v.length) (hV : dval (v.take (i + 2)) = V) (ht : 2147483648 * 4294967296 ^ (i + 1) ≤ V) (hlt : dval (u.drop (k + 1)) < V) : Guess u v k i V (win u k (i + 3)) := by
  have hVw : BigK.win v 0 (i + 2) = V := by rw [← hV]; simp [BigK.win]
  have hVn : V < 4294967296 ^ (i + 2) := by rw [← hVw]; exact win_lt sv 0 (i + 2)
  have hds := drop_split u k (by omega)
  have hu0 := su.getD k
  have hdl : dval (u.drop k) < V * 4294967296 := by rw [hds]; omega
  have hwin : BigK.win u k (i + 3) = dval (u.drop k) := win_all k (i + 3) (by
    rw [show i + 3 = i + 2 + 1 from rfl, Nat.pow_succ]
    exact Nat.lt_of_lt_of_le hdl (Nat.mul_le_mul_right _ (Nat.le_of_lt hVn))) (by omega)
  -- the divisor's digits
  have hVd := win_top2 v 0 i (by omega)
  rw [hVw, Nat.zero_add] at hVd
  have hS := win_lt sv 0 i
  have hV1 := win_succ v 0 (i + 1) (by omega)
  rw [show i + 1 + 1 = i + 2 from rfl, hVw, Nat.zero_add] at hV1
  have hS1 := win_lt sv 0 (i + 1)
  have hv2 := sv.getD i
  have hv1l := sv.getD (i + 1)
  have hp0 : 0 < 4294967296 ^ i := Nat.pow_pos (by decide)
  have hp1 : 0 < 4294967296 ^ (i + 1) := Nat.pow_pos (by decide)
  have hbig : 2147483648 ≤ v.getD (i + 1) 0 := by
    apply Classical.byContradiction
    intro hn
    have h3 : v.getD (i + 1) 0 + 1 ≤ 2147483648 := by omega
    have h4 := Nat.mul_le_mul_left (4294967296 ^ (i + 1)) h3
    rw [Nat.mul_add, Nat.mul_one] at h4
    rw [Nat.mul_comm 2147483648] at ht
    omega
  -- the dividend's
  have hWd := win_top2 u k (i + 1) (by omega)
  rw [show k + (i + 1) = k + i + 1 by omega, show k + i + 1 + 1 = k + i + 2 by omega, show i + 1 + 2 = i + 3 by omega] at hWd
  have hWs := win_succ u k i (by omega)
  have hR := win_lt su k i
  have hU0 := su.getD (k + i)
  have hU1 := su.getD (k + i + 1)
  have hU2 := su.getD (k + i + 2)
  have htop2 : u.getD (k + i + 2) 0 ≤ v.getD (i + 1) 0 := by
    have e := take_drop_val (u.drop (k + 1)) (i + 1) (by rw [List.length_drop]; omega)
    have e2 := drop_split (u.drop (k + 1)) (i + 1) (by rw [List.length_drop]; omega)
    have e3 : (u.drop (k + 1)).getD (i + 1) 0 = u.getD (k + i + 2) 0 := by
      rw [List.getD_eq_getElem?_getD, List.getElem?_drop, List.getD_eq_getElem?_getD, show k + 1 + (i + 1) = k + i + 2 by omega]
    rw [e3] at e2
    rw [e2] at e
    apply Classical.byContradiction
    intro hn
    have h3 : v.getD (i + 1) 0 + 1 ≤ u.getD (k + i + 2) 0 := by omega
    have h4 := Nat.mul_le_mul_left (4294967296 ^ (i + 1)) h3
    rw [Nat.mul_add, Nat.mul_one] at h4
    rw [Nat.mul_add] at e
    omega
  obtain ⟨W, hW⟩ : ∃ W, BigK.win u k (i + 3) = W := ⟨_, rfl⟩
  rw [hW] at hwin hWd
  obtain ⟨B, hB⟩ : ∃ B, 4294967296 ^ i = B := ⟨_, rfl⟩
  rw [Nat.pow_succ, hB] at hWd
  rw [hB] at hVd hS hR hWs
  have eV : V = (v.getD (i + 1) 0 * 4294967296 + v.getD i 0) * B + BigK.win v 0 i := by
    rw [hVd, Nat.mul_comm _ B, Nat.mul_comm (v.getD (i + 1) 0), Nat.add_comm (v.getD i 0), Nat.add_comm (BigK.win v 0 i)]
  have eW : W = ((u.getD (k + i + 2) 0 * 4294967296 + u.getD (k + i + 1) 0) * 4294967296 + u.getD (k + i) 0) * B + BigK.win u k i := by
    rw [hWd, hWs]
    have a1 : B * 4294967296 * (u.getD (k + i + 1) 0 + 4294967296 * u.getD (k + i + 2) 0) = (u.getD (k + i + 2) 0 * 4294967296 + u.getD (k + i + 1) 0) * 4294967296 * B := by
      rw [Nat.mul_comm (B * 4294967296), Nat.mul_comm B, ← Nat.mul_assoc, Nat.add_comm (u.getD (k + i + 1) 0), Nat.mul_comm 4294967296 (u.getD (k + i + 2) 0)]
    rw [a1, Nat.mul_comm B, Nat.add_mul _ (u.getD (k + i) 0)]
    omega
  have hWl : W < V * 4294967296 := by rw [hwin]; exact hdl
  have hc := guess_core hbig hU0 hR hS eV eW hWl
  rw [hW]
  exact ⟨hW.symm, hwin, hWl, hbig, by omega, hc.1, hc.2.1, hc.2.2⟩
/-- The greatest guess. -/
theorem guess_top {h r v1 T : Nat} (e : h * v1 + r = T) (ht : T ≤ v1 * 4294967296 + 4294967295) (hb : 2147483648 ≤ v1) : h ≤ 4294967297 ∧ (h = 4294967297 → r + v1 < 4294967296) := by
  constructor
  · apply Classical.byContradiction
    intro hn
    have h3 : 4294967298 * v1 ≤ h * v1 := Nat.mul_le_mul_right v1 (by omega)
    omega
  · intro e1
    subst e1
    omega
theorem guess_less {h r v1 T : Nat} (e : h * v1 + r = T) (h1 : 1 ≤ h) : (h - 1) * v1 + (r + v1) = T := by
  have h3 : h * v1 = (h - 1) * v1 + v1 := by
    have h4 : h = (h - 1) + 1 := by omega
    conv => lhs; rw [h4, Nat.add_mul, Nat.one_mul]
  omega
theorem prod_lt {h v2 : Nat} (hh : h < 4294967296) (hv : v2 < 4294967296) : h * v2 ≤ 4294967295 * 4294967295 := Nat.mul_le_mul (by omega) (by omega)
theorem cell_of {w : World} {g : Nat} {L : List Nat} (h : ArrW.Arr w g 57 (WordsW.wc L)) {q x : Nat} (hq : q < L.length) (hx : L.getD q 0 = x) : w.cell? ⟨g, q, none⟩ = some (.int .u32 (x : Int)) := by
  have h1 := h.cell q
  rw [wc_at L q hq] at h1
  rw [h1, ← hx, List.getD_eq_getElem?_getD, List.getElem?_eq_getElem hq]
  rfl
end Go.Proofs.YtfngomlknhappaaDoor.BigK

/-
  Division digit by digit: a multiple taken off in place, and the divisor put back. Plain mathematics. No program is named here. Conditions: in the statement.
-/
namespace Go.Proofs.YtfngomlknhappaaDoor.BigK
open BigW BigNewW BigMulW BigM

theorem sub64 {x cl b : Nat} (hx : x < 4294967296) (hc : cl < 4294967296) (hb : b ≤ 1) : ∃ y1 y2 r b' : Nat, IntKind.u64.wrap ((x : Int) - (cl : Int)) = (y1 : Int) ∧ IntKind.u64.wrap ((y1 : Int) - (b : Int)) = (y2 : Int) ∧ IntKind.u32.wrap (y2 : Int) = (r : Int) ∧ (y2 : Int) / 9223372036854775808 = (b' : Int) ∧ y1 < 18446744073709551616 ∧ y2 < 18446744073709551616 ∧ r < 4294967296 ∧ b' ≤ 1 ∧ r + cl + b = x + b' * 4294967296 := by
  refine ⟨(x + 18446744073709551616 - cl) % 18446744073709551616, (x + 18446744073709551616 - cl - b) % 18446744073709551616, (x + 18446744073709551616 - cl - b) % 18446744073709551616 % 4294967296, (x + 18446744073709551616 - cl - b) % 18446744073709551616 / 9223372036854775808, ?_, ?_, ?_, ?_, ?_, ?_, ?_, ?_, ?_⟩
  · rw [IntKind.wrap_u64]; omega
  · rw [IntKind.wrap_u64]; omega
  · rw [IntKind.wrap_u32]; omega
  · omega
  · omega
  · omega
  · omega
  · omega
  · omega
theorem win_set_top {u : List Nat} {k a r : Nat} (h : k + a < u.length) : win (u.set (k + a) r) k (a + 1) = win u k a + 4294967296 ^ a * r := by
  rw [win_succ _ k a (by rw [List.length_set]; exact h), win_set_ge u k a (k + a) r (Nat.le_refl _), List.getD_eq_getElem?_getD, List.getElem?_set_self h]
  rfl

/-- h times the divisor's first a digits, taken off u from k on. -/
structure Took (u v : List Nat) (k m h a b c : Nat) (u' : List Nat) : Prop where
  b1 : b ≤ 1
  c1 : c < 4294967296
  len : u'.length = m
  small : Sd u'
  val : win u' k a + h * win v 0 a = win u k a + (b + c) * 4294967296 ^ a
  keep : ∀ q, q < k ∨ k + a ≤ q → u'.getD q 0 = u.getD q 0
theorem took_none {u v : List Nat} {k m h : Nat} (hu : u.length = m) (su : Sd u) : Took u v k m h 0 0 0 u :=
  ⟨by omega, by omega, hu, su, by simp [win_zero], fun _ _ => rfl⟩
theorem took_step {u v : List Nat} {k m h a b c : Nat} {u' : List Nat} (t : Took u v k m h a b c u') (hka : k + a < m) (hul : u.length = m) (hv : a < v.length) (hh : h ≤ 4294967296) {x y c1 r b' c' : Nat} (hx : u.getD (k + a) 0 = x) (hy : v.getD a 0 = y) (hyl : y < 4294967296) (hc1 : c + h * y = c1) (hr : r + c1 % 4294967296 + b = x + b' * 4294967296) (hb' : b' ≤ 1) (hrl : r < 4294967296) (hc' : c1 / 4294967296 = c') :
    Took u v k m h (a + 1) b' c' (u'.set (k + a) r) := by
  have hc64 : c1 < 18446744073709551616 := by
    have h1 : h * y ≤ 4294967296 * 4294967295 := Nat.mul_le_mul hh (by omega)
    have := t.c1
    omega
  refine ⟨hb', by omega, by rw [List.length_set]; exact t.len, small_set u' _ _ t.small hrl, ?_, fun q hq => ?_⟩
  · rw [win_set_top (by rw [t.len]; exact hka), win_succ u k a (by rw [hul]; exact hka), win_succ v 0 a (by omega), hx, Nat.zero_add, hy, Nat.pow_succ]
    exact sub_step t.val hc1.symm hc'.symm hr
  · rw [BigMulW.getD_set_ne _ _ _ _ (by omega)]
    exact t.keep q (by omega)
theorem took_c {h y c : Nat} (hc : c < 4294967296) (hh : h ≤ 4294967296) (hy : y < 4294967296) : h * y < 18446744073709551616 ∧ c + h * y < 18446744073709551616 := by
  have h1 : h * y ≤ 4294967296 * 4294967295 := Nat.mul_le_mul hh (by omega)
  omega
/-- The top digit. -/
theorem took_end {u v : List Nat} {k m h n b c : Nat} {u' : List Nat} (t : Took u v k m h n b c u') (hka : k + n < m) (hul : u.length = m) {x r b' : Nat} (hx : u.getD (k + n) 0 = x) (hr : r + c + b = x + b' * 4294967296) :
    win (u'.set (k + n) r) k (n + 1) + h * win v 0 n = win u k (n + 1) + b' * 4294967296 ^ (n + 1) := by
  rw [win_set_top (by rw [t.len]; exact hka), win_succ u k n (by rw [hul]; exact hka), hx, Nat.pow_succ]
  have h1 := t.val
  have h2 : 4294967296 ^ n * (r + c + b) = 4294967296 ^ n * (x + b' * 4294967296) := by rw [hr]
  rw [Nat.mul_add, Nat.mul_add, Nat.mul_add, ← Nat.mul_assoc, Nat.mul_right_comm] at h2
  rw [Nat.add_mul, Nat.mul_comm b, Nat.mul_comm c] at h1
  have h3 : b' * (4294967296 ^ n * 4294967296) = 4294967296 ^ n * b' * 4294967296 := by rw [← Nat.mul_assoc, Nat.mul_comm b']
  have h4 : 4294967296 ^ n * 4294967296 * b' = 4294967296 ^ n * b' * 4294967296 := Nat.mul_right_comm _ _ _
  omega

/-- The divisor's first a digits put back. -/
structure Back (u v : List Nat) (k m a c : Nat) (u' : List Nat) : Prop where
  c1 : c ≤ 1
  len : u'.length = m
  small : Sd u'
  val : win u' k a + c * 4294967296 ^ a = win u k a + win v 0 a
  keep : ∀ q, q < k ∨ k + a ≤ q → u'.getD q 0 = u.getD q 0
theorem back_none {u v : List Nat} {k m : Nat} (hu : u.length = m) (su : Sd u) : Back u v k m 0 0 u :=
  ⟨by omega, hu, su, by simp [win_zero], fun _ _ => rfl⟩
theorem back_step {u v : List Nat} {k m a c : Nat} {u' : List Nat} (t : Back u v k m a c u') (hka : k + a < m) (hul : u.length = m) (hv : a < v.length) {x y s : Nat} (hx : u.getD (k + a) 0 = x) (hxl : x < 4294967296) (hy : v.getD a 0 = y) (hyl : y < 4294967296) (hs : c + (x + y) = s) :
    Back u v k m (a + 1) (s / 4294967296) (u'.set (k + a) (s % 4294967296)) := by
  have hc := t.c1
  refine ⟨by omega, by rw [List.length_set]; exact t.len, small_set u' _ _ t.small (by omega), ?_, fun q hq => ?_⟩
  · rw [win_set_top (by rw [t.len]; exact hka), win_succ u k a (by rw [hul]; exact hka), win_succ v 0 a (by omega), hx, Nat.zero_add, hy, Nat.pow_succ]
    exact add_step t.val hs.symm
  · rw [BigMulW.getD_set_ne _ _ _ _ (by omega)]
    exact t.keep q (by omega)
theorem back_end {u v : List Nat} {k m n c : Nat} {u' : List Nat} (t : Back u v k m n c u') (hka : k + n < m) (hul : u.length = m) {x : Nat} (hx : u.getD (k + n) 0 = x) :
    win (u'.set (k + n) ((x + c) % 4294967296)) k (n + 1) + (x + c) / 4294967296 * 4294967296 ^ (n + 1) = win u k (n + 1) + win v 0 n := by
  rw [win_set_top (by rw [t.len]; exact hka), win_succ u k n (by rw [hul]; exact hka), hx, Nat.pow_succ]
  have h1 := t.val
  have h2 : 4294967296 ^ n * ((x + c) % 4294967296 + 4294967296 * ((x + c) / 4294967296)) = 4294967296 ^ n * (x + c) := by rw [Nat.mod_add_div]
  rw [Nat.mul_add, Nat.mul_add, ← Nat.mul_assoc] at h2
  rw [Nat.mul_comm c] at h1
  have h3 : (x + c) / 4294967296 * (4294967296 ^ n * 4294967296) = 4294967296 ^ n * 4294967296 * ((x + c) / 4294967296) := Nat.mul_comm _ _
  omega

/-- The same digits above, the same below. -/
theorem drop_same {u u' : List Nat} (hl : u'.length = u.length) (q : Nat) (h : ∀ j, q ≤ j → u'.getD j 0 = u.getD j 0) : u'.drop q = u.drop q := by
  apply List.ext_getElem
  · rw [List.length_drop, List.length_drop, hl]
  · intro j h1 h2
    rw [List.length_drop] at h1 h2
    have h3 := h (q + j) (by omega)
    rw [List.getD_eq_getElem?_getD, List.getD_eq_getElem?_getD, List.getElem?_eq_getElem (by omega), List.getElem?_eq_getElem (by omega)] at h3
    rw [List.getElem_drop, List.getElem_drop]
    exact h3
theorem take_same {u u' : List Nat} (hl : u'.length = u.length) (q : Nat) (h : ∀ j, j < q → u'.getD j 0 = u.getD j 0) : u'.take q = u.take q := by
  apply List.ext_getElem
  · rw [List.length_take, List.length_take, hl]
  · intro j h1 h2
    rw [List.length_take] at h1 h2
    have h3 := h j (by omega)
    rw [List.getD_eq_getElem?_getD, List.getD_eq_getElem?_getD, List.getElem?_eq_getElem (by omega), List.getElem?_eq_getElem (by omega)] at h3
    rw [List.getElem_take, List.getElem_take]
    exact h3
/-- The place done: what the whole is worth. -/
theorem place_done {u u' : List Nat} {k i W V X D o : Nat} (hl : u'.length = u.length) (hk : k + i + 3 ≤ u.length) (hW : W = win u k (i + 3)) (hWd : W = dval (u.drop k)) (h' : win u' k (i + 3) = W % V) (keep : ∀ q, q < k ∨ k + i + 3 ≤ q → u'.getD q 0 = u.getD q 0) (hX : o * V + dval u = X) (hV : 0 < V) (hD : D = o + W / V * 4294967296 ^ k) :
    D * V + dval u' = X ∧ dval (u'.drop k) < V := by
  have e1 := take_drop_val u k (by omega)
  have e2 := take_drop_val u' k (by omega)
  rw [take_same hl k (fun j hj => keep j (Or.inl hj))] at e2
  have e3 := take_drop_val (u.drop k) (i + 3) (by rw [List.length_drop]; omega)
  have e4 := take_drop_val (u'.drop k) (i + 3) (by rw [List.length_drop, hl]; omega)
  rw [List.drop_drop] at e3 e4
  rw [drop_same hl (k + (i + 3)) (fun j hj => keep j (Or.inr (by omega)))] at e4
  change dval (u.drop k) = win u k (i + 3) + _ at e3
  change dval (u'.drop k) = win u' k (i + 3) + _ at e4
  have e5 : dval (u'.drop k) = W % V := by rw [e4, h']; omega
  refine ⟨whole_step (k := k) hX (by rw [e1, ← hWd]) (by rw [e2, e5]) rfl hD, ?_⟩
  rw [e5]
  exact Nat.mod_lt _ hV
end Go.Proofs.YtfngomlknhappaaDoor.BigK

/-
  The document's own whole numbers: parts by two digits or more. Conditions: in the statement.
-/
namespace Go.Proofs.YtfngomlknhappaaDoor.BigPart2W
open Go.RowKit BytesW CellsW WordsW ArrW BigW BigNewW BigMulW BigM BigNegW BigShlW BigShrW BigK BigPart1W

theorem belowD (B : Nat) (w : World) (n : Nat) : Below B w (w.drewN n) := ⟨rfl, rfl, rfl, Nat.le_refl _, fun _ _ => rfl⟩
theorem take_val {l : List Nat} (n : Nat) (hn : n ≤ l.length) (h : dval l < 4294967296 ^ n) : dval (l.take n) = dval l := by
  have e := win_all (u := l) 0 n (by simpa using h) (by omega)
  simpa [win] using e
theorem us_take {w : World} {B : Nat} {A : Option Addr} {l : List Nat} (h : Us w B A l) (n : Nat) : Us w B A (l.take n) := by
  intro h0
  rw [List.length_take] at h0
  obtain ⟨ad, e, hlt, hc⟩ := h (by omega)
  refine ⟨ad, e, hlt, fun k hk => ?_⟩
  rw [List.length_take] at hk
  rw [hc k (by omega), List.getElem_take]
/-- The top digit, shifted. -/
theorem top_shift {y : List Nat} {n s t : Nat} (hn : y.length = n) (h1 : 1 ≤ n) (ht : y.getD (n - 1) 0 = t) (hs : Sd y) (h31 : s ≤ 31) (h2 : t * 2 ^ s < 4294967296) : dval y * 2 ^ s < 4294967296 ^ n := by
  have e := take_drop_val y (n - 1) (by omega)
  have e2 := drop_split y (n - 1) (by omega)
  rw [show n - 1 + 1 = n by omega, show y.drop n = [] from List.drop_of_length_le (by omega), ht] at e2
  rw [e2] at e
  have b1 : dval (y.take (n - 1)) < 4294967296 ^ (n - 1) := by
    have h := dval_lt (l := y.take (n - 1)) (fun x hx => hs x (List.mem_of_mem_take hx))
    rw [List.length_take, Nat.min_eq_left (by omega)] at h
    exact h
  simp only [dval, Nat.mul_zero, Nat.add_zero] at e
  have hp : 4294967296 ^ n = 4294967296 ^ (n - 1) * 4294967296 := by rw [← Nat.pow_succ]; congr 1; omega
  have hp0 : 0 < 2 ^ s := Nat.pow_pos (by decide)
  have h3 : dval y < 4294967296 ^ (n - 1) * (t + 1) := by rw [Nat.mul_add, Nat.mul_one]; omega
  have h5 : (t + 1) * 2 ^ s ≤ 4294967296 := by
    obtain ⟨c, hc⟩ : ∃ c, 4294967296 = 2 ^ s * c := ⟨2 ^ (32 - s), by rw [← Nat.pow_add, show s + (32 - s) = 32 by omega]⟩
    rw [hc, Nat.mul_comm (2 ^ s) c] at h2
    have h6 : t < c := Nat.lt_of_mul_lt_mul_right h2
    calc (t + 1) * 2 ^ s ≤ c * 2 ^ s := Nat.mul_le_mul_right _ h6
      _ = 4294967296 := by rw [Nat.mul_comm]; exact hc.symm
  calc dval y * 2 ^ s < 4294967296 ^ (n - 1) * (t + 1) * 2 ^ s := Nat.mul_lt_mul_of_pos_right h3 hp0
    _ = 4294967296 ^ (n - 1) * ((t + 1) * 2 ^ s) := Nat.mul_assoc _ _ _
    _ ≤ 4294967296 ^ (n - 1) * 4294967296 := Nat.mul_le_mul_left _ h5
    _ = 4294967296 ^ n := hp.symm

theorem shl_zero (a s : Nat) (h31 : s ≤ 31) (ha : 1 ≤ a) (h : a * 2 ^ s < 2147483648) : s + 1 ≤ 31 ∧ a * 2 ^ (s + 1) < 4294967296 := by
  constructor
  · apply Classical.byContradiction
    intro hn
    have : s = 31 := by omega
    subst this
    have := Nat.mul_le_mul_right (2 ^ 31) ha
    omega
  · rw [Nat.pow_succ, ← Nat.mul_assoc]
    omega
/-- The divisor, set to the left until its top bit is set. -/
structure Norm (y v : List Nat) (n s : Nat) : Prop where
  len : v.length = n
  small : Sd v
  val : dval v = dval y * 2 ^ s
  top : 2147483648 ≤ v.getD (n - 1) 0
theorem norm_top {v : List Nat} {n V : Nat} (hl : v.length = n) (h1 : 1 ≤ n) (hV : dval v = V) (hs : Sd v) {c : Nat} (hc : c * 4294967296 ^ (n - 1) ≤ V) : c ≤ v.getD (n - 1) 0 := by
  have e := take_drop_val v (n - 1) (by omega)
  have e2 := drop_split v (n - 1) (by omega)
  rw [show n - 1 + 1 = n by omega, show v.drop n = [] from List.drop_of_length_le (by omega)] at e2
  rw [e2] at e
  have b1 : dval (v.take (n - 1)) < 4294967296 ^ (n - 1) := by
    have h := dval_lt (l := v.take (n - 1)) (fun x hx => hs x (List.mem_of_mem_take hx))
    rw [List.length_take, Nat.min_eq_left (by omega)] at h
    exact h
  simp only [dval, Nat.mul_zero, Nat.add_zero] at e
  apply Classical.byContradiction
  intro hn
  have h3 : v.getD (n - 1) 0 + 1 ≤ c := by omega
  have h4 := Nat.mul_le_mul_right (4294967296 ^ (n - 1)) h3
  have h5 : (v.getD (n - 1) 0 + 1) * 4294967296 ^ (n - 1) = 4294967296 ^ (n - 1) * v.getD (n - 1) 0 + 4294967296 ^ (n - 1) := by rw [Nat.add_mul, Nat.one_mul, Nat.mul_comm]
  omega

set_option maxHeartbeats 16000000 in
set_option maxRecDepth 100000 in
theorem parts2_any (Ax : Option Addr) (x : List Nat) (cx : Nat) (Ay : Option Addr) (y : List Nat) (cy : Nat) (w : World) (hx : Us w w.heap.size Ax x) (hy : Us w w.heap.size Ay y) (sx : Sd x) (sy : Sd y) (ty : Tidy y) (h2 : 2 ≤ y.length) (hxy : y.length ≤ x.length) (lx : x.length ≤ 1048576) :
    Calls Tryd.prog 66 #[.slice Ax x.length cx, .slice Ay y.length cy] w (Parts x y w) := by
  have HX := Lib.hid hx
  have HY := Lib.hid hy
  have SX := Lib.hid sx
  have SY := Lib.hid sy
  have TY := Lib.hid ty
  obtain ⟨n, hn⟩ : ∃ n, y.length = n := ⟨_, rfl⟩
  have HN := Lib.hid hn
  rw [hn] at h2 hxy ⊢
  have t1 : ((n : Int) == 1) = false := by rw [beq_eq_false_iff_ne]; omega
  have t1' : (n == 1) = false := by rw [beq_eq_false_iff_ne]; omega
  have en : IntKind.i64.wrap ((n : Int) - 1) = ((n - 1 : Nat) : Int) := by rw [IntWalk.i64_in _ (by omega)]; omega
  obtain ⟨n1, hn1⟩ : ∃ n1, n - 1 = n1 := ⟨_, rfl⟩
  rw [hn1] at en
  have hn1n : n1 < y.length := by omega
  obtain ⟨ady, rfl, _, cyt⟩ := hy.at_ hn1n
  obtain ⟨t, ht⟩ : ∃ t, y[n1]'hn1n = t := ⟨_, rfl⟩
  have gt : y.getD n1 0 = t := by rw [List.getD_eq_getElem?_getD, List.getElem?_eq_getElem hn1n]; exact ht
  have ht1 : 1 ≤ t := by
    rcases ty with h | h
    · rw [h] at hn; simp at hn; omega
    · rcases Nat.eq_zero_or_pos t with h0 | h0
      · exfalso
        refine h ?_
        rw [List.getLast?_eq_getElem?, hn, hn1, List.getElem?_eq_getElem hn1n, ht, h0]
      · exact h0
  have htl := sy _ (List.getElem_mem hn1n)
  rw [ht] at cyt htl
  have GT := Lib.hid gt
  have HN1 := Lib.hid hn1
  have in1 : (n1 : Int) < (n : Int) := by omega
  clear hx hy sx sy ty hn ht gt hn1 hn1n
  go_enter Tryd.func66, Tryd.ntmps66
  go_wp2
  go_loopw [9] (fun vs wr => ∃ s : Nat, s ≤ 31 ∧ vs = .int .i64 (s : Int) ∧ t * 2 ^ s < 4294967296 ∧ wr = w) (fun vs _ => 31 - (intOf vs).toNat)
  case atStart => exact ⟨0, by omega, rfl, by omega, rfl⟩
  case round =>
    obtain ⟨s, hs, rfl, hts, hwr⟩ := hrel
    subst hwr
    obtain ⟨z, hz⟩ : ∃ z, t * 2 ^ s = z := ⟨_, rfl⟩
    have HTs := Lib.hid hts
    rw [hz] at hts
    have e1 : IntKind.u32.wrap ((t : Int) * 2 ^ s) = (z : Int) := by
      have : (t : Int) * 2 ^ s = (z : Int) := by rw [← hz]; push_cast; rfl
      rw [this, IntKind.wrap_u32]; omega
    obtain ⟨p, hp⟩ : ∃ p, z / 2147483648 = p := ⟨_, rfl⟩
    have e2 : (z : Int) / 2147483648 = (p : Int) := by omega
    have es : IntKind.i64.wrap ((s : Int) + 1) = ((s + 1 : Nat) : Int) := by rw [IntWalk.i64_in _ (by omega)]; omega
    by_cases hp0 : p = 0
    · have t2 : ((p : Int) == 0) = true := by rw [beq_iff_eq]; omega
      have hnx := shl_zero t s hs ht1 (by omega)
      have HNx := Lib.hid hnx
      clear hz hp hp0 hnx HTs
      go_wp2
      go_roundw
      case rel => exact ⟨s + 1, HNx.out.1, by go_num, HNx.out.2, by first | rfl | trivial⟩
      case measure => have := HNx.out.1; simp [intOf]; omega
    · have t2 : ((p : Int) == 0) = false := by rw [beq_eq_false_iff_ne]; omega
      have HTop := Lib.hid (show 2147483648 ≤ t * 2 ^ s by omega)
      clear hz hp hp0
      go_wp2
      have hab := ab wr
      have BD := Lib.hid (show Below wr.heap.size wr wr.drew from ⟨rfl, rfl, rfl, Nat.le_refl _, fun _ _ => rfl⟩)
      have HCv := Lib.hid (shl_any (some ady) y cy s wr.drew ((HY.out.below BD.out).more BD.out.size) SY.out (by rw [HN.out]; omega) (by omega))
      rw [HN.out] at HCv
      have hs32 : s / 32 = 0 := by omega
      refine wp_region_tree (.read 0 (.read 1 (.read 3 (.read 5 (.read 6 (.step 2 (.read 4 (.step 7 (.step 8 (.step 9 .done)))))))))) (fun W => ∃ x : Ab wr, W = x.val) (by kernel_rfl) (by kernel_rfl) (by decide) (fun _ _ d _ _ h => by cases d <;> exact h) (Cl.of BD.out) ?_
      iterate 5 (refine tree_read rfl (fun K hK => ?_); go_simp; refine hK _ ?_; clear hK K)
      refine tree_step rfl (Cl.of BD.out) (fun K hK => ?_)
      go_simp
      refine HCv.out.mono ?_
      clear HCv
      rintro e w2 ⟨Dv, rfl, aV, sV, vV, lV, b2⟩
      rw [hs32, Nat.add_zero] at lV
      obtain ⟨m1, hm1⟩ : ∃ m1, n + 1 = m1 := ⟨_, rfl⟩
      rw [hm1] at lV
      rw [lV]
      have HM1 := Lib.hid hm1
      have X2 := Lib.hid (BD.out.trans (b2.mono BD.out.size))
      refine hK _ _ ⟨Cl.of X2.out, ?_⟩
      clear hK K
      have inn : (n : Int) ≤ (m1 : Int) := by omega
      have LV := Lib.hid lV
      clear hm1 lV
      refine tree_read rfl (fun K hK => ?_)
      go_simp
      refine hK _ ?_
      clear hK K
      have HCu := Lib.hid (shl_any Ax x cx s w2 ((HX.out.below X2.out).more X2.out.size) SX.out (by omega) (by omega))
      refine tree_step rfl (Cl.of X2.out) (fun K hK => ?_)
      go_simp
      refine HCu.out.mono ?_
      clear HCu
      rintro e w3 ⟨u0, rfl, aU, sU, vU, lU, b3⟩
      rw [hs32, Nat.add_zero] at lU
      obtain ⟨m, hm⟩ : ∃ m, x.length + 1 = m := ⟨_, rfl⟩
      rw [hm] at lU
      rw [lU]
      have HM := Lib.hid hm
      have LU := Lib.hid lU
      clear hm lU
      have X3 := Lib.hid (X2.out.trans (b3.mono X2.out.size))
      refine hK _ _ ⟨Cl.of X3.out, ?_⟩
      clear hK K
      iterate 2 (refine tree_step rfl (Cl.of X3.out) (fun K hK => ?_); go_simp; refine hK _ _ ⟨Cl.of X3.out, ?_⟩; clear hK K)
      refine tree_done ?_
      obtain ⟨gv, hgv⟩ : ∃ gv, wr.heap.size = gv := ⟨_, rfl⟩
      obtain ⟨gu, hgu⟩ : ∃ gu, w2.heap.size = gu := ⟨_, rfl⟩
      have aV2 : Arr w2 gv 57 (wc Dv) := by rw [← hgv]; exact aV
      have hvu : gv < gu := by rw [← hgu]; exact aV2.lt
      have aV3 := aV2.below b3 aV2.lt
      rw [hgu] at aU
      obtain ⟨V, hV⟩ : ∃ V, dval y * 2 ^ s = V := ⟨_, rfl⟩
      obtain ⟨X, hX⟩ : ∃ X, dval x * 2 ^ s = X := ⟨_, rfl⟩
      rw [hV] at vV
      rw [hX] at vU
      have HV := Lib.hid hV
      have HXv := Lib.hid hX
      have hn1e := HN1.out
      have HVn := Lib.hid (show V < 4294967296 ^ n by rw [← hV]; exact top_shift HN.out (by omega) (by rw [hn1e]; exact GT.out) SY.out hs HTs.out)
      have HVt := Lib.hid (show 2147483648 * 4294967296 ^ n1 ≤ V by
        have e := take_drop_val y n1 (by rw [HN.out]; omega)
        have e2 := drop_split y n1 (by rw [HN.out]; omega)
        rw [GT.out] at e2
        have h1 : 4294967296 ^ n1 * t ≤ dval y := by rw [e, e2, Nat.mul_add]; omega
        have h2 := Nat.mul_le_mul_right (2 ^ s) h1
        have h3 := Nat.mul_le_mul_right (4294967296 ^ n1) HTop.out
        rw [← hV]
        have e3 : t * 2 ^ s * 4294967296 ^ n1 = 4294967296 ^ n1 * t * 2 ^ s := by rw [Nat.mul_comm (4294967296 ^ n1), Nat.mul_right_comm]
        rw [e3] at h3
        exact Nat.le_trans h3 h2)
      have hV0 : 0 < V := by
        have h1 := HVt.out
        have h2 : 0 < 4294967296 ^ n1 := Nat.pow_pos (by decide)
        have h3 := Nat.mul_le_mul_left 2147483648 h2
        omega
      have HDt := Lib.hid (show dval (Dv.take n) = V by rw [take_val n (by rw [LV.out, ← HM1.out]; omega) (by rw [vV]; exact HVn.out)]; exact vV)
      have HU0 := Lib.hid (show dval (u0.drop (m - n)) < V by
        rw [dval_drop u0 (m - n) sU (by rw [LU.out]; omega), vU, ← hX, Nat.div_lt_iff_lt_mul (Nat.pow_pos (by decide))]
        have h1 := dval_lt SX.out
        have hp0 : 0 < 2 ^ s := Nat.pow_pos (by decide)
        have h2 : dval x * 2 ^ s < 4294967296 ^ x.length * 2 ^ s := Nat.mul_lt_mul_of_pos_right h1 hp0
        have h3 : 2 ^ s ≤ 2147483648 := Nat.pow_le_pow_right (by decide) (show s ≤ 31 from hs)
        have h4 : 4294967296 ^ x.length * 2 ^ s ≤ 4294967296 ^ x.length * 2147483648 := Nat.mul_le_mul_left _ h3
        have h5 : 4294967296 ^ x.length = 4294967296 ^ n1 * 4294967296 ^ (m - n) := by rw [← Nat.pow_add]; congr 1; have := HM.out; omega
        have h6 := Nat.mul_le_mul_right (4294967296 ^ (m - n)) HVt.out
        have h7 : 2147483648 * 4294967296 ^ n1 * 4294967296 ^ (m - n) = 4294967296 ^ x.length * 2147483648 := by rw [h5, Nat.mul_comm 2147483648, Nat.mul_right_comm]
        omega)
      have AV3 := Lib.hid aV3
      have AU3 := Lib.hid aU
      have SV := Lib.hid sV
      have SU := Lib.hid sU
      have VU := Lib.hid vU
      have mle : m ≤ 1048577 := by have := HM.out; omega
      have hnm : n < m := by have := HM.out; omega
      have hmk := makeU m (by omega)
      have hmm := HM.out
      have ar := made_arr m w3
      have hb1 := (Below.refl w3.heap.size w3).alloc (Nat.le_refl _) (.cells (madeCells #[.int .u32 0] m) 57)
      obtain ⟨w4, hw4⟩ : ∃ w4, w3.alloc (.cells (madeCells #[.int .u32 0] m) 57) = w4 := ⟨_, rfl⟩
      rw [hw4] at ar hb1
      obtain ⟨go, hgo⟩ : ∃ go, w3.heap.size = go := ⟨_, rfl⟩
      have hug : gu < go := by rw [← hgo]; exact AU3.out.lt
      have AV4 := Lib.hid (AV3.out.below hb1 AV3.out.lt)
      have AU4 := Lib.hid (AU3.out.below hb1 AU3.out.lt)
      have AO4 : Hid (Arr w4 go 57 (wc (List.replicate m 0))) := Lib.hid (by rw [← hgo]; exact ar)
      have X4 := Lib.hid (X3.out.trans (hb1.mono X3.out.size))
      have HW4 := Lib.hid hw4
      have HGo := Lib.hid hgo
      have HGv := Lib.hid hgv
      have e15 : IntKind.i64.wrap ((m : Int) - (n : Int)) = ((m - n : Nat) : Int) := by rw [IntWalk.i64_in _ (by omega)]; omega
      have e16 : IntKind.i64.wrap (((m - n : Nat) : Int) - 1) = ((m - n : Nat) : Int) - 1 := IntWalk.i64_in _ (by omega)
      obtain ⟨d, hd⟩ : ∃ d, m - n = d := ⟨_, rfl⟩
      rw [hd] at e15 e16 HU0
      have HD := Lib.hid hd
      simp only [hgv, hgu]
      clear aV aV2 aV3 aU sV sU vV vU b2 b3 hV hX ar hb1 hw4 hgo hgu hd hn1e hmm inn AV3 AU3 X2 BD hab hs32 e1 e2 es t2 cyt htl
      go_upto_region 16 with (fail)
      simp only [HW4.out, HGo.out]
      clear hmk
      have XF0 := Lib.hid (show Below gv wr w4 by rw [← HGv.out]; exact X4.out)
      go_wp2
      go_loopw [14] (fun vk wx => ∃ (j : Nat) (u o : List Nat), j ≤ d ∧ vk = .int .i64 ((j : Int) - 1) ∧ Arr wx gu 57 (wc u) ∧ u.length = m ∧ Sd u ∧ Arr wx go 57 (wc o) ∧ o.length = m ∧ Sd o ∧ dval o * V + dval u = X ∧ dval (u.drop j) < V ∧ (∀ p, p < j → o.getD p 0 = 0) ∧ Below gu w4 wx) (fun vk _ => (intOf vk + 1).toNat)
      case atStart =>
        refine ⟨d, u0, List.replicate m 0, Nat.le_refl _, rfl, AU4.out, LU.out, SU.out, AO4.out, by simp, fun z hz => by rw [List.eq_of_mem_replicate hz]; decide, ?_, HU0.out, fun p _ => by simp only [List.getD_eq_getElem?_getD, List.getElem?_replicate]; split <;> rfl, Below.refl _ _⟩
        have hz : ∀ n, dval (List.replicate n 0) = 0 := by
          intro n
          induction n with
          | zero => rfl
          | succ n ih => rw [List.replicate_succ, dval, ih]
        rw [hz, Nat.zero_mul, Nat.zero_add]
        exact VU.out
      case round =>
        clear AU4 AO4 VU SU LU HU0
        obtain ⟨j, u, o, hj, rfl, au, ul, us, ao, ol, os, hval, hlt, hz, hb⟩ := hrel
        have AU := Lib.hid au
        have UL := Lib.hid ul
        have US := Lib.hid us
        have AO := Lib.hid ao
        have OL := Lib.hid ol
        have OS := Lib.hid os
        have HVal := Lib.hid hval
        have HLt := Lib.hid hlt
        have HZr := Lib.hid hz
        have BB := Lib.hid hb
        clear au ul us ao ol os hval hlt hz hb
        cases j with
        | zero =>
          rw [show (((0 : Nat) : Int) - 1) = -1 from rfl]
          have ct : decide ((-1 : Int) ≥ 0) = false := rfl
          have hu0 := HLt.out
          rw [List.drop_zero] at hu0
          have hwe := whole_end HVal.out hu0
          have htk := take_val (l := u) n (by rw [UL.out]; omega) (Nat.lt_trans hu0 HVn.out)
          have hsc := scaled (dval x) (dval y) (2 ^ s) (Nat.pow_pos (by decide))
          rw [HV.out, HXv.out] at hsc
          have hln : (u.take n).length = n := by rw [List.length_take, UL.out]; omega
          have hsh := shr_any (some ⟨gu, 0, none⟩) (u.take n) m s wr (us_take (us_of_arr AU.out) n) (fun z hz => US.out z (List.mem_of_mem_take hz)) (by rw [hln]; omega) (by rw [hln]; omega) (by omega)
          rw [hln, htk, hwe.2, hsc.2] at hsh
          have HSh := Lib.hid hsh
          have HQ := Lib.hid (hwe.1.trans hsc.1)
          have inm : (n : Int) ≤ (m : Int) := by omega
          clear hu0 hwe htk hsc hln hsh
          go_wp2_with fail
          refine HSh.out.mono ?_
          clear HSh
          rintro e w6 ⟨A6, D6, c6, rfl, u6, hc6, s6, v6, l6, b6⟩
          have hAo := AO.out.below b6 AO.out.lt
          have L6 := Lib.hid l6
          have V6 := Lib.hid v6
          have XF := Lib.hid ((XF0.out.trans (BB.out.mono (Nat.le_of_lt hvu))).trans (b6.mono (show gv ≤ wr.heap.size by have := AU.out.lt; omega)))
          clear l6 v6 b6
          go_wp2
          go_ret2
          refine ⟨some ⟨go, 0, none⟩, A6, o, D6, m, c6, by rw [OL.out]; rfl, us_of_arr hAo, u6, by rw [OL.out]; exact Nat.le_refl _, hc6, OS.out, s6, HQ.out, V6.out, by rw [OL.out, ← HM.out]; exact Nat.le_refl _, by rw [HN.out]; exact L6.out, by rw [HGv.out]; exact XF.out⟩
        | succ k =>
          rw [show (((k + 1 : Nat) : Int) - 1) = (k : Int) by omega]
          have ct : decide ((k : Int) ≥ 0) = true := decide_eq_true (by omega)
          obtain ⟨i, hi⟩ : ∃ i, n = i + 2 := ⟨n - 2, by omega⟩
          have hd0 := HD.out
          have hm0 := HM1.out
          have hkm : k + i + 2 < m := by omega
          have hn1i : n1 = i + 1 := by have := HN1.out; omega
          have hvt := HVt.out
          rw [hn1i] at hvt
          have hg0 := guess (u := u) (v := Dv) (k := k) (i := i) (V := V) US.out SV.out (by rw [UL.out]; exact hkm) (by rw [LV.out]; omega) (by rw [← hi]; exact HDt.out) hvt HLt.out
          obtain ⟨W, hW⟩ : ∃ W, BigK.win u k (i + 3) = W := ⟨_, rfl⟩
          rw [hW] at hg0
          obtain ⟨p, hp⟩ : ∃ p, k + i + 2 = p := ⟨_, rfl⟩
          obtain ⟨p1, hp1⟩ : ∃ p1, k + i + 1 = p1 := ⟨_, rfl⟩
          obtain ⟨p0, hp0⟩ : ∃ p0, k + i = p0 := ⟨_, rfl⟩
          have hgt := hg0.top
          have hgb := hg0.big
          have hge := hg0.ge
          have hgl := hg0.le
          have hgf := hg0.fst
          rw [hp, hp1] at hgf
          rw [hp, hp1] at hgt
          rw [hp, hp1, hp0] at hge hgl
          rw [hp] at hkm
          have cell_u : ∀ q, q < m → wr.cell? ⟨gu, q, none⟩ = some (.int .u32 ((u.getD q 0 : Nat) : Int)) := fun q hq => by
            have h := AU.out.cell q
            rw [wc_at u q (by rw [UL.out]; exact hq)] at h
            rw [h, List.getD_eq_getElem?_getD, List.getElem?_eq_getElem (by rw [UL.out]; exact hq)]
            rfl
          have AVr := Lib.hid (AV4.out.below (BB.out.mono (Nat.le_refl _)) hvu)
          have cell_v : ∀ q, q < m1 → wr.cell? ⟨gv, q, none⟩ = some (.int .u32 ((Dv.getD q 0 : Nat) : Int)) := fun q hq => by
            have h := AVr.out.cell q
            rw [wc_at Dv q (by rw [LV.out]; exact hq)] at h
            rw [h, List.getD_eq_getElem?_getD, List.getElem?_eq_getElem (by rw [LV.out]; exact hq)]
            rfl
          have lu := fun q => (US.out).getD q
          have lv := fun q => (SV.out).getD q
          have lu2 := lu p
          have lu1 := lu p1
          have lu0 := lu p0
          have lv1 := lv (i + 1)
          have lv2 := lv i
          have cu2 := cell_u p (by omega)
          have cu1 := cell_u p1 (by omega)
          have CU0 := Lib.hid (cell_u p0 (by omega))
          have CV1 := Lib.hid (cell_v (i + 1) (by omega))
          have CV2 := Lib.hid (cell_v i (by omega))
          have hk64 : k ≤ 1048577 := by omega
          have ep : IntKind.i64.wrap ((k : Int) + (n : Int)) = (p : Int) := by rw [IntWalk.i64_in _ (by omega)]; omega
          have ep1 : IntKind.i64.wrap ((p : Int) - 1) = (p1 : Int) := by rw [IntWalk.i64_in _ (by omega)]; omega
          have hp1m : p1 < m := by omega
          generalize gU2 : u.getD p 0 = U2 at *
          have GU2 := Lib.hid gU2
          clear gU2
          generalize gU1 : u.getD p1 0 = U1 at *
          have GU1 := Lib.hid gU1
          clear gU1
          generalize gU0 : u.getD p0 0 = U0 at *
          have GU0 := Lib.hid gU0
          clear gU0
          generalize gv1 : Dv.getD (i + 1) 0 = v1 at *
          have GV1 := Lib.hid gv1
          clear gv1
          generalize gv2 : Dv.getD i 0 = v2 at *
          have GV2 := Lib.hid gv2
          clear gv2
          obtain ⟨T, hT⟩ : ∃ T, U2 * 4294967296 + U1 = T := ⟨_, rfl⟩
          have eU2 : IntKind.u64.wrap (U2 : Int) = (U2 : Int) := IntWalk.u64_in _ (by omega)
          have eU1 : IntKind.u64.wrap (U1 : Int) = (U1 : Int) := IntWalk.u64_in _ (by omega)
          have es2 : IntKind.u64.wrap ((U2 : Int) * 4294967296) = (U2 : Int) * 4294967296 := IntWalk.u64_in _ (by omega)
          have hor := or_shift U2 U1 lu2 lu1
          rw [hT] at hor hgt hge hgl hgf
          have HGf := Lib.hid hgf
          have HGb := Lib.hid hgb
          clear hgf
          have HTl := Lib.hid (show T < 18446744073709551616 by omega)
          have HGe := Lib.hid hge
          have HGl := Lib.hid hgl
          have HGt := Lib.hid hgt
          have HG0 := Lib.hid (show W = dval (u.drop k) ∧ W < V * 4294967296 from ⟨hg0.val, hg0.lt⟩)
          have HWw := Lib.hid hW
          have Hi := Lib.hid hi
          have Hp := Lib.hid hp
          have Hp1 := Lib.hid hp1
          have Hp0 := Lib.hid hp0
          have Hn1i := Lib.hid hn1i
          have HCu := Lib.hid cell_u
          have HCv := Lib.hid cell_v
          have HLu := Lib.hid lu
          have HLv := Lib.hid lv
          clear hg0 hge hgl hgt hW hi hp hp1 hp0 hn1i hvt hT cell_u cell_v lu lv
          go_wp2
          go_quiet (fail)
          go_upto_region 20 with (fail)
          clear cu2 cu1 ep ep1 eU2 eU1 es2 hor
          have cv1 : wr.cell? ⟨gv, n1, none⟩ = some (.int .u32 (v1 : Int)) := by rw [Hn1i.out]; exact CV1.out
          obtain ⟨q0, hq0⟩ : ∃ q0, T / v1 = q0 := ⟨_, rfl⟩
          obtain ⟨r0, hr0⟩ : ∃ r0, T % v1 = r0 := ⟨_, rfl⟩
          have eq1 : (T : Int).tdiv (v1 : Int) = (q0 : Int) := by rw [Int.tdiv_eq_ediv_of_nonneg (by omega), ← hq0]; push_cast; rfl
          have eq2 : (T : Int) / (v1 : Int) = (q0 : Int) := by rw [← hq0]; push_cast; rfl
          have em1 : (T : Int).tmod (v1 : Int) = (r0 : Int) := by rw [Int.tmod_eq_emod_of_nonneg (by omega), ← hr0]; push_cast; rfl
          have em2 : (T : Int) % (v1 : Int) = (r0 : Int) := by rw [← hr0]; push_cast; rfl
          have hqr := Nat.div_add_mod T v1
          rw [hq0, hr0, Nat.mul_comm] at hqr
          have hr0v : r0 < v1 := by rw [← hr0]; exact Nat.mod_lt _ (by omega)
          have hq0l : q0 ≤ T := by rw [← hq0]; exact Nat.div_le_self _ _
          have HQR := Lib.hid hqr
          have HR0v := Lib.hid hr0v
          have hTl := HTl.out
          have wq64 : IntKind.u64.wrap (q0 : Int) = (q0 : Int) := IntWalk.u64_in _ (by omega)
          have wr64 : IntKind.u64.wrap (r0 : Int) = (r0 : Int) := IntWalk.u64_in _ (by omega)
          have ev1 : IntKind.u64.wrap (v1 : Int) = (v1 : Int) := IntWalk.u64_in _ (by omega)
          have hy0 : ((v1 : Int) == 0) = false := by rw [beq_eq_false_iff_ne]; omega
          clear hq0 hr0 hqr hr0v hq0l
          go_quiet (fail)
          go_upto_block 6 with (fail)
          clear eq1 eq2 em1 em2 wq64 wr64 hTl
          go_cut [16] (fun q wx => ∃ h : Nat, q = .int .u64 (h : Int) ∧ W / V ≤ h ∧ h ≤ W / V + 1 ∧ Below wr.heap.size wr wx)
          case first =>
            go_wp2_with fail
            go_loopw [16, 17] (fun vq vr wx => ∃ h r : Nat, vq = .int .u64 (h : Int) ∧ vr = .int .u64 (r : Int) ∧ h * v1 + r = T ∧ W / V ≤ h ∧ h ≤ 4294967297 ∧ r < 4294967296 ∧ (h = 4294967297 → r + v1 < 4294967296) ∧ Below wr.heap.size wr wx) (fun vq _ _ => (intOf vq).toNat)
            case atStart =>
              have ht4 := guess_top HQR.out HGt.out HGb.out
              have hr0v := HR0v.out
              refine ⟨q0, r0, rfl, rfl, HQR.out, ?_, ht4.1, by omega, ht4.2, (belowD _ _ _).trans (belowD _ _ _)⟩
              have h5 : W / V < q0 + 1 := HGf.out (q0 + 1) (by have := HQR.out; rw [Nat.add_mul, Nat.one_mul]; omega)
              omega
            case round =>
              obtain ⟨h, r, rfl, rfl, hel, hqh, hhb, hrb, htop4, hbx⟩ := hrel
              have BX := Lib.hid hbx
              have HEl := Lib.hid hel
              have HTop4 := Lib.hid htop4
              have AUx := Lib.hid (AU.out.below hbx AU.out.lt)
              have AVx := Lib.hid (AVr.out.below hbx (Nat.lt_trans hvu AU.out.lt))
              have cv1' := cell_of AVx.out (q := n1) (x := v1) (by rw [LV.out, ← HM1.out]; omega) (by rw [Hn1i.out]; exact GV1.out)
              clear hbx htop4 cv1
              rename World => wx
              obtain ⟨z, hz⟩ : ∃ z, h / 4294967296 = z := ⟨_, rfl⟩
              have ez : (h : Int) / 4294967296 = (z : Int) := by omega
              have ei1 : IntKind.i64.wrap ((k : Int) + (n : Int)) = (p : Int) := by rw [IntWalk.i64_in _ (by omega)]; have := Hp.out; have := Hi.out; omega
              have ei2 : IntKind.i64.wrap ((p : Int) - 2) = (p0 : Int) := by have := Hp.out; have := Hp0.out; rw [IntWalk.i64_in _ (by omega)]; omega
              have ei3 : IntKind.i64.wrap ((n : Int) - 2) = (i : Int) := by have := Hi.out; rw [IntWalk.i64_in _ (by omega)]; omega
              have ev1 : IntKind.u64.wrap (v1 : Int) = (v1 : Int) := IntWalk.u64_in _ (by omega)
              have hv2L : v1 < 4294967296 := lv1
              by_cases hA : 4294967296 ≤ h
              · have hh0 : 1 ≤ h := by omega
                have hgt1 : W / V < h := HGe.out h r hel (Or.inl hA)
                have tz : ((z : Int) != 0) = true := bne_iff_ne.2 (by omega)
                clear hz ei1 ei2 ei3
                go_upto_region 22 with (fail)
                go_quiet (fail)
                obtain ⟨h1, hh1⟩ : ∃ h1, h - 1 = h1 := ⟨_, rfl⟩
                obtain ⟨r1, hr1⟩ : ∃ r1, r + v1 = r1 := ⟨_, rfl⟩
                have eh1 : IntKind.u64.wrap ((h : Int) - 1) = (h1 : Int) := by rw [IntWalk.u64_in _ (by omega)]; omega
                have er1 : IntKind.u64.wrap ((r : Int) + (v1 : Int)) = (r1 : Int) := by rw [IntWalk.u64_in _ (by omega)]; omega
                obtain ⟨z2, hz2⟩ : ∃ z2, r1 / 4294967296 = z2 := ⟨_, rfl⟩
                have ez2 : (r1 : Int) / 4294967296 = (z2 : Int) := by omega
                have hls := guess_less hel hh0
                rw [hh1, hr1] at hls
                have HLs := Lib.hid hls
                by_cases hb2 : r1 < 4294967296
                · have tz2 : ((z2 : Int) != 0) = false := by rw [bne_eq_false_iff_eq]; omega
                  have hrel1 := Lib.hid (show W / V ≤ h1 ∧ h1 ≤ 4294967297 ∧ (h1 = 4294967297 → r1 + v1 < 4294967296) ∧ h1 < h from ⟨by omega, by omega, fun h9 => by omega, by omega⟩)
                  clear hls hh1 hr1 hz2 hgt1
                  go_wp2
                  go_roundw
                  case rel => exact ⟨h1, r1, rfl, rfl, HLs.out, hrel1.out.1, hrel1.out.2.1, hb2, hrel1.out.2.2.1, BX.out.trans (belowD _ _ _)⟩
                  case measure => have := hrel1.out.2.2.2; simp [intOf]; omega
                · have tz2 : ((z2 : Int) != 0) = true := bne_iff_ne.2 (by omega)
                  have hrel1 := Lib.hid (show W / V ≤ h1 ∧ h1 ≤ W / V + 1 from ⟨by omega, by
                    have hlt1 : h1 < 4294967296 := by
                      rcases Nat.lt_or_ge h 4294967297 with h9 | h9
                      · omega
                      · have := HTop4.out (by omega); omega
                    have := prod_lt hlt1 lv2
                    exact HGl.out h1 r1 HLs.out hlt1 (by omega)⟩)
                  clear hls hh1 hr1 hz2 hgt1
                  go_wp2
                  go_meet
                  case rel => exact ⟨h1, rfl, hrel1.out.1, hrel1.out.2, BX.out.trans (belowD _ _ _)⟩
              · have hh4 : h < 4294967296 := by omega
                have tz : ((z : Int) != 0) = false := by rw [bne_eq_false_iff_eq]; omega
                have cu0 := cell_of AUx.out (q := p0) (x := U0) (by rw [UL.out]; have := Hp.out; have := Hp0.out; omega) GU0.out
                have cv2 := cell_of AVx.out (q := i) (x := v2) (by rw [LV.out, ← HM1.out]; have := Hi.out; omega) GV2.out
                have hp0m : p0 < m := by have := Hp.out; have := Hp0.out; omega
                have hin : i < n := by have := Hi.out; omega
                have eU0 : IntKind.u64.wrap (U0 : Int) = (U0 : Int) := IntWalk.u64_in _ (by omega)
                have ev2 : IntKind.u64.wrap (v2 : Int) = (v2 : Int) := IntWalk.u64_in _ (by omega)
                have hprl := prod_lt hh4 lv2
                obtain ⟨pr, hpr⟩ : ∃ pr, h * v2 = pr := ⟨_, rfl⟩
                rw [hpr] at hprl
                have epr : IntKind.u64.wrap ((h : Int) * (v2 : Int)) = (pr : Int) := by
                  have e : (h : Int) * (v2 : Int) = (pr : Int) := by rw [← hpr]; push_cast; rfl
                  rw [e, IntWalk.u64_in _ (by omega)]
                have esr : IntKind.u64.wrap ((r : Int) * 4294967296) = (r : Int) * 4294967296 := IntWalk.u64_in _ (by omega)
                have hor2 := or_shift r U0 hrb lu0
                obtain ⟨X0, hX0⟩ : ∃ X0, r * 4294967296 + U0 = X0 := ⟨_, rfl⟩
                rw [hX0] at hor2
                by_cases hB : X0 < pr
                · have tI : decide ((X0 : Int) < (pr : Int)) = true := decide_eq_true (by omega)
                  have tN : decide (X0 < pr) = true := decide_eq_true hB
                  have hh0 : 1 ≤ h := by
                    apply Classical.byContradiction
                    intro hn
                    have h9 : h = 0 := by omega
                    subst h9
                    rw [Nat.zero_mul] at hpr
                    omega
                  have hgt1 : W / V < h := HGe.out h r hel (Or.inr (by rw [hX0, hpr]; exact hB))
                  clear hz hpr hX0 hprl
                  go_upto_region 22 with (fail)
                  go_quiet (fail)
                  obtain ⟨h1, hh1⟩ : ∃ h1, h - 1 = h1 := ⟨_, rfl⟩
                  obtain ⟨r1, hr1⟩ : ∃ r1, r + v1 = r1 := ⟨_, rfl⟩
                  have eh1 : IntKind.u64.wrap ((h : Int) - 1) = (h1 : Int) := by rw [IntWalk.u64_in _ (by omega)]; omega
                  have er1 : IntKind.u64.wrap ((r : Int) + (v1 : Int)) = (r1 : Int) := by rw [IntWalk.u64_in _ (by omega)]; omega
                  obtain ⟨z2, hz2⟩ : ∃ z2, r1 / 4294967296 = z2 := ⟨_, rfl⟩
                  have ez2 : (r1 : Int) / 4294967296 = (z2 : Int) := by omega
                  have hls := guess_less hel hh0
                  rw [hh1, hr1] at hls
                  have HLs := Lib.hid hls
                  by_cases hb2 : r1 < 4294967296
                  · have tz2 : ((z2 : Int) != 0) = false := by rw [bne_eq_false_iff_eq]; omega
                    have hrel1 := Lib.hid (show W / V ≤ h1 ∧ h1 ≤ 4294967297 ∧ (h1 = 4294967297 → r1 + v1 < 4294967296) ∧ h1 < h from ⟨by omega, by omega, fun h9 => by omega, by omega⟩)
                    clear hls hh1 hr1 hz2 hgt1
                    go_wp2
                    go_roundw
                    case rel => exact ⟨h1, r1, rfl, rfl, HLs.out, hrel1.out.1, hrel1.out.2.1, hb2, hrel1.out.2.2.1, BX.out.trans (belowD _ _ _)⟩
                    case measure => have := hrel1.out.2.2.2; simp [intOf]; omega
                  · have tz2 : ((z2 : Int) != 0) = true := bne_iff_ne.2 (by omega)
                    have hrel1 := Lib.hid (show W / V ≤ h1 ∧ h1 ≤ W / V + 1 from ⟨by omega, by
                      have hlt1 : h1 < 4294967296 := by
                        rcases Nat.lt_or_ge h 4294967297 with h9 | h9
                        · omega
                        · have := HTop4.out (by omega); omega
                      have := prod_lt hlt1 lv2
                      exact HGl.out h1 r1 HLs.out hlt1 (by omega)⟩)
                    clear hls hh1 hr1 hz2 hgt1
                    go_wp2
                    go_meet
                    case rel => exact ⟨h1, rfl, hrel1.out.1, hrel1.out.2, BX.out.trans (belowD _ _ _)⟩
                · have tI : decide ((X0 : Int) < (pr : Int)) = false := decide_eq_false (by omega)
                  have tN : decide (X0 < pr) = false := decide_eq_false hB
                  have hle9 : h ≤ W / V + 1 := HGl.out h r hel hh4 (by rw [hX0, hpr]; omega)
                  clear hz hpr hX0 hprl
                  go_upto_region 22 with (fail)
                  go_quiet (fail)
                  go_wp2
                  go_meet
                  case rel => exact ⟨h, rfl, hqh, hle9, BX.out.trans (belowD _ _ _)⟩
          case rest =>
            obtain ⟨h, rfl, hq1, hq2, hbx⟩ := hcut
            rename World => wx
            have HQ1 := Lib.hid hq1
            have HQ2 := Lib.hid hq2
            have AUx := Lib.hid (AU.out.below hbx AU.out.lt)
            have AOx := Lib.hid (AO.out.below hbx AO.out.lt)
            have hgu4 : gu ≤ wr.heap.size := Nat.le_of_lt AU.out.lt
            have BBx := Lib.hid (BB.out.trans (hbx.mono hgu4))
            have HWV := Lib.hid (show W / V < 4294967296 by rw [Nat.div_lt_iff_lt_mul hV0, Nat.mul_comm]; exact HG0.out.2)
            have hhl : h ≤ 4294967296 := by have := HWV.out; omega
            have hn1' := Hn1i.out
            have hpk : k + n = p := by have := Hp.out; have := Hi.out; omega
            have HPk := Lib.hid hpk
            clear hbx hq1 hq2 hgu4 hn1' hpk
            go_wp2
            go_loopw [18, 19, 174] (fun vc vb vi wy => ∃ (a b c : Nat) (u' : List Nat), a ≤ n ∧ vi = .int .i64 (a : Int) ∧ vc = .int .u64 (c : Int) ∧ vb = .int .u64 (b : Int) ∧ Took u Dv k m h a b c u' ∧ Arr wy gu 57 (wc u') ∧ Arr wy go 57 (wc o) ∧ Below gu w4 wy) (fun _ _ vi _ => n - (intOf vi).toNat)
            case atStart => exact ⟨0, 0, 0, u, Nat.zero_le _, rfl, rfl, rfl, took_none UL.out US.out, AUx.out, AOx.out, BBx.out⟩
            case round =>
              clear AUx AOx BBx
              obtain ⟨a, b, c, u', han, rfl, rfl, rfl, tk, auy, aoy, bby⟩ := hrel
              have TK := Lib.hid tk
              have AUy := Lib.hid auy
              have AOy := Lib.hid aoy
              have BBy := Lib.hid bby
              have AVy := Lib.hid (AV4.out.below bby hvu)
              have hcl := tk.c1
              have hbl := tk.b1
              clear tk auy aoy bby
              rename World => wy
              by_cases hlt5 : a < n
              · have tlt : decide ((a : Int) < (n : Int)) = true := decide_eq_true (by omega)
                obtain ⟨ka, hka⟩ : ∃ ka, k + a = ka := ⟨_, rfl⟩
                have eka : IntKind.i64.wrap ((k : Int) + (a : Int)) = (ka : Int) := by rw [IntWalk.i64_in _ (by omega)]; omega
                have hkam : ka < m := by have := HPk.out; omega
                have ea1 : IntKind.i64.wrap ((a : Int) + 1) = ((a + 1 : Nat) : Int) := by rw [IntWalk.i64_in _ (by omega)]; omega
                have hkeep := TK.out.keep ka (by omega)
                obtain ⟨x5, hx5⟩ : ∃ x5, u.getD ka 0 = x5 := ⟨_, rfl⟩
                rw [hx5] at hkeep
                obtain ⟨y5, hy5⟩ : ∃ y5, Dv.getD a 0 = y5 := ⟨_, rfl⟩
                have hx5l : x5 < 4294967296 := by rw [← hx5]; exact HLu.out ka
                have hy5l : y5 < 4294967296 := by rw [← hy5]; exact HLv.out a
                have c5 := cell_of AVy.out (q := a) (x := y5) (by rw [LV.out, ← HM1.out]; omega) hy5
                have c5u := cell_of AUy.out (q := ka) (x := x5) (by rw [TK.out.len]; exact hkam) hkeep
                have f5u := AUy.out.frozen ka
                have htc := took_c hcl hhl hy5l
                obtain ⟨c1, hc1⟩ : ∃ c1, c + h * y5 = c1 := ⟨_, rfl⟩
                obtain ⟨cl, hcl1⟩ : ∃ cl, c1 % 4294967296 = cl := ⟨_, rfl⟩
                obtain ⟨c', hc'⟩ : ∃ c', c1 / 4294967296 = c' := ⟨_, rfl⟩
                have ec1 : IntKind.u64.wrap (c1 : Int) = (c1 : Int) := IntWalk.u64_in _ (by omega)
                have em : IntKind.u64.wrap ((h : Int) * (y5 : Int)) = (h : Int) * (y5 : Int) := by
                  have e : (h : Int) * (y5 : Int) = ((h * y5 : Nat) : Int) := by push_cast; rfl
                  rw [e]; exact IntWalk.u64_in _ (by omega)
                have es : IntKind.u64.wrap ((c : Int) + (h : Int) * (y5 : Int)) = (c1 : Int) := by
                  have e : (c : Int) + (h : Int) * (y5 : Int) = (c1 : Int) := by rw [← hc1]; push_cast; rfl
                  rw [e]; exact ec1
                have ey5 : IntKind.u64.wrap (y5 : Int) = (y5 : Int) := IntWalk.u64_in _ (by omega)
                have ex5 : IntKind.u64.wrap (x5 : Int) = (x5 : Int) := IntWalk.u64_in _ (by omega)
                have ecl : IntKind.u32.wrap (c1 : Int) = (cl : Int) := by rw [IntKind.wrap_u32]; omega
                have ecl2 : IntKind.u64.wrap (cl : Int) = (cl : Int) := IntWalk.u64_in _ (by omega)
                have ec' : (c1 : Int) / 4294967296 = (c' : Int) := by omega
                obtain ⟨y1, y2, r, b', s1, s2, s3, s4, hy1, hy2, hrl, hbl', hsum⟩ := sub64 hx5l (show cl < 4294967296 by omega) hbl
                have tk1 := took_step TK.out (by rw [hka]; exact hkam) UL.out (show a < Dv.length by rw [LV.out, ← HM1.out]; omega) hhl (x := x5) (by rw [hka]; exact hx5) hy5 hy5l hc1 (by rw [hcl1]; exact hsum) hbl' hrl hc'
                rw [hka] at tk1
                have TK1 := Lib.hid tk1
                have aun := AUy.out.set ka (.int .u32 (r : Int))
                rw [wc_set] at aun
                have AUn := Lib.hid aun
                have AOn := Lib.hid (AOy.out.other ⟨gu, ka, none⟩ (.int .u32 (r : Int)) (show gu ≠ go from Nat.ne_of_lt hug))
                have BBn := Lib.hid (BBy.out.setCell (p := ⟨gu, ka, none⟩) (Nat.le_refl _) (.int .u32 (r : Int)))
                clear hka hkeep hx5 hy5 hc1 hcl1 hc' tk1 aun hsum htc ec1
                go_wp2
                go_roundw
                case rel => exact ⟨a + 1, b', c', _, by omega, by go_num, rfl, rfl, TK1.out, AUn.out, AOn.out, BBn.out⟩
                case measure => simp [intOf]; omega
              · obtain rfl : n = a := by omega
                have tlt : decide ((n : Int) < (n : Int)) = false := decide_eq_false (by omega)
                have ep : IntKind.i64.wrap ((k : Int) + (n : Int)) = (p : Int) := by rw [IntWalk.i64_in _ (by omega)]; have := HPk.out; omega
                have hkeep := TK.out.keep p (by have := HPk.out; omega)
                rw [GU2.out] at hkeep
                have c5u := cell_of AUy.out (q := p) (x := U2) (by rw [TK.out.len]; exact hkm) hkeep
                have f5u := AUy.out.frozen p
                have eU2 : IntKind.u64.wrap (U2 : Int) = (U2 : Int) := IntWalk.u64_in _ (by omega)
                obtain ⟨y1, y2, r, t5, s1, s2, s3, s4, hy1, hy2, hrl, ht5, hsum⟩ := sub64 lu2 hcl hbl
                have hte := took_end TK.out (by rw [HPk.out]; exact hkm) UL.out (x := U2) (by rw [HPk.out]; exact GU2.out) hsum
                rw [HPk.out] at hte
                have HTe := Lib.hid hte
                obtain ⟨u2, hu2⟩ : ∃ u2, u'.set p r = u2 := ⟨_, rfl⟩
                have aun := AUy.out.set p (.int .u32 (r : Int))
                rw [wc_set, hu2] at aun
                have U2s := Lib.hid (show u2.length = m ∧ Sd u2 ∧ (∀ q, q < k ∨ k + i + 3 ≤ q → u2.getD q 0 = u.getD q 0) ∧ u2.getD p 0 = r from by
                  subst hu2
                  refine ⟨by rw [List.length_set]; exact TK.out.len, small_set u' _ _ TK.out.small hrl, fun q hq => ?_, ?_⟩
                  · have := Hp.out
                    rw [BigMulW.getD_set_ne _ _ _ _ (by omega)]
                    exact TK.out.keep q (by have := Hi.out; omega)
                  · rw [List.getD_eq_getElem?_getD, List.getElem?_set_self (by rw [TK.out.len]; exact hkm)]; rfl)
                rw [hu2] at HTe
                have AUn := Lib.hid aun
                have AOn := Lib.hid (AOy.out.other ⟨gu, p, none⟩ (.int .u32 (r : Int)) (show gu ≠ go from Nat.ne_of_lt hug))
                have BBn := Lib.hid (BBy.out.setCell (p := ⟨gu, p, none⟩) (Nat.le_refl _) (.int .u32 (r : Int)))
                have hWv : win Dv 0 n = V := by rw [← HDt.out]; simp [win]
                have HWv := Lib.hid hWv
                have hni3 : n + 1 = i + 3 := by have := Hi.out; omega
                have HNi3 := Lib.hid hni3
                clear hkeep hte hu2 aun hWv hni3 hsum
                go_upto_if 230 with (fail)
                obtain ⟨wu, hwu⟩ : ∃ wu, wy.setCell ⟨gu, p, none⟩ (.int .u32 (r : Int)) = wu := ⟨_, rfl⟩
                rw [hwu] at AUn AOn BBn ⊢
                clear hwu c5u f5u
                go_cut [16] (fun q wz => ∃ u4, q = .int .u64 ((W / V : Nat) : Int) ∧ Arr wz gu 57 (WordsW.wc u4) ∧ u4.length = m ∧ Sd u4 ∧ win u4 k (i + 3) = W % V ∧ (∀ q, q < k ∨ k + i + 3 ≤ q → u4.getD q 0 = u.getD q 0) ∧ Arr wz go 57 (WordsW.wc o) ∧ Below gu w4 wz)
                case first =>
                  by_cases h1 : t5 = 1
                  · have tt : ((t5 : Int) == 1) = true := by rw [beq_iff_eq]; omega
                    subst h1
                    have he := HTe.out
                    rw [HWv.out, HNi3.out, HWw.out, Nat.one_mul] at he
                    have hwl := win_lt U2s.out.2.1 k (i + 3)
                    have hh0 : 1 ≤ h := by
                      apply Classical.byContradiction
                      intro hn
                      rw [show h = 0 by omega, Nat.zero_mul] at he
                      omega
                    have HE := Lib.hid he
                    have HWl := Lib.hid hwl
                    obtain ⟨h1, hh1⟩ : ∃ h1, h - 1 = h1 := ⟨_, rfl⟩
                    have eh1 : IntKind.u64.wrap ((h : Int) - 1) = (h1 : Int) := by rw [IntWalk.u64_in _ (by omega)]; omega
                    have HH1 := Lib.hid (show h = h1 + 1 by omega)
                    clear he hwl hh1
                    go_wp2
                    go_loopw [18, 235] (fun vc vi wz => ∃ (a c : Nat) (u3 : List Nat), a ≤ n ∧ vi = .int .i64 (a : Int) ∧ vc = .int .u64 (c : Int) ∧ Back u2 Dv k m a c u3 ∧ Arr wz gu 57 (WordsW.wc u3) ∧ Arr wz go 57 (WordsW.wc o) ∧ Below gu w4 wz) (fun _ vi _ => n - (intOf vi).toNat)
                    case atStart => exact ⟨0, 0, u2, Nat.zero_le _, rfl, rfl, back_none U2s.out.1 U2s.out.2.1, AUn.out, AOn.out, BBn.out⟩
                    case round =>
                      clear AUn AOn BBn TK AUy AOy BBy AVy tlt ep eU2 s1 s2 s3 s4 eh1
                      obtain ⟨a, c, u3, han, rfl, rfl, tk, auy, aoy, bby⟩ := hrel
                      have TK := Lib.hid tk
                      have AUy := Lib.hid auy
                      have AOy := Lib.hid aoy
                      have BBy := Lib.hid bby
                      have AVy := Lib.hid (AV4.out.below bby hvu)
                      have hcl := tk.c1
                      clear tk auy aoy bby
                      rename World => wz
                      by_cases hlt6 : a < n
                      · have tlt : decide ((a : Int) < (n : Int)) = true := decide_eq_true (by omega)
                        obtain ⟨ka, hka⟩ : ∃ ka, k + a = ka := ⟨_, rfl⟩
                        have eka : IntKind.i64.wrap ((k : Int) + (a : Int)) = (ka : Int) := by rw [IntWalk.i64_in _ (by omega)]; omega
                        have hkam : ka < m := by have := HPk.out; omega
                        have ea1 : IntKind.i64.wrap ((a : Int) + 1) = ((a + 1 : Nat) : Int) := by rw [IntWalk.i64_in _ (by omega)]; omega
                        have hkeep := TK.out.keep ka (by omega)
                        obtain ⟨x5, hx5⟩ : ∃ x5, u2.getD ka 0 = x5 := ⟨_, rfl⟩
                        rw [hx5] at hkeep
                        obtain ⟨y5, hy5⟩ : ∃ y5, Dv.getD a 0 = y5 := ⟨_, rfl⟩
                        have hx5l : x5 < 4294967296 := by rw [← hx5]; exact (U2s.out.2.1).getD ka
                        have hy5l : y5 < 4294967296 := by rw [← hy5]; exact HLv.out a
                        have c5 := cell_of AVy.out (q := a) (x := y5) (by rw [LV.out, ← HM1.out]; omega) hy5
                        have c5u := cell_of AUy.out (q := ka) (x := x5) (by rw [TK.out.len]; exact hkam) hkeep
                        have f5u := AUy.out.frozen ka
                        obtain ⟨xy, hxy6⟩ : ∃ xy, x5 + y5 = xy := ⟨_, rfl⟩
                        obtain ⟨s6, hs6⟩ : ∃ s6, c + xy = s6 := ⟨_, rfl⟩
                        obtain ⟨sl, hsl⟩ : ∃ sl, s6 % 4294967296 = sl := ⟨_, rfl⟩
                        obtain ⟨c', hc'⟩ : ∃ c', s6 / 4294967296 = c' := ⟨_, rfl⟩
                        have exy : IntKind.u64.wrap ((x5 : Int) + (y5 : Int)) = (xy : Int) := by rw [IntWalk.u64_in _ (by omega)]; omega
                        have es : IntKind.u64.wrap ((c : Int) + (xy : Int)) = (s6 : Int) := by rw [IntWalk.u64_in _ (by omega)]; omega
                        have ey5 : IntKind.u64.wrap (y5 : Int) = (y5 : Int) := IntWalk.u64_in _ (by omega)
                        have ex5 : IntKind.u64.wrap (x5 : Int) = (x5 : Int) := IntWalk.u64_in _ (by omega)
                        have esl : IntKind.u32.wrap (s6 : Int) = (sl : Int) := by rw [IntKind.wrap_u32]; omega
                        have ec' : (s6 : Int) / 4294967296 = (c' : Int) := by omega
                        have tk1 := back_step TK.out (by rw [hka]; exact hkam) U2s.out.1 (show a < Dv.length by rw [LV.out, ← HM1.out]; omega) (x := x5) (by rw [hka]; exact hx5) hx5l hy5 hy5l (s := s6) (by rw [hxy6]; exact hs6)
                        rw [hka, hsl, hc'] at tk1
                        have TK1 := Lib.hid tk1
                        have aun := AUy.out.set ka (.int .u32 (sl : Int))
                        rw [wc_set] at aun
                        have AUn := Lib.hid aun
                        have AOn := Lib.hid (AOy.out.other ⟨gu, ka, none⟩ (.int .u32 (sl : Int)) (show gu ≠ go from Nat.ne_of_lt hug))
                        have BBn := Lib.hid (BBy.out.setCell (p := ⟨gu, ka, none⟩) (Nat.le_refl _) (.int .u32 (sl : Int)))
                        clear hka hkeep hx5 hy5 hxy6 hs6 hsl hc' tk1 aun
                        go_wp2
                        go_roundw
                        case rel => exact ⟨a + 1, c', _, by omega, by go_num, rfl, TK1.out, AUn.out, AOn.out, BBn.out⟩
                        case measure => simp [intOf]; omega
                      · obtain rfl : n = a := by omega
                        have tlt : decide ((n : Int) < (n : Int)) = false := decide_eq_false (by omega)
                        have ep : IntKind.i64.wrap ((k : Int) + (n : Int)) = (p : Int) := by rw [IntWalk.i64_in _ (by omega)]; have := HPk.out; omega
                        have hkeep := TK.out.keep p (by have := HPk.out; omega)
                        rw [U2s.out.2.2.2] at hkeep
                        have c5u := cell_of AUy.out (q := p) (x := r) (by rw [TK.out.len]; exact hkm) hkeep
                        have f5u := AUy.out.frozen p
                        obtain ⟨rc, hrc⟩ : ∃ rc, (r + c) % 4294967296 = rc := ⟨_, rfl⟩
                        have ec : IntKind.u32.wrap (c : Int) = (c : Int) := by rw [IntKind.wrap_u32]; omega
                        have erc : IntKind.u32.wrap ((r : Int) + (c : Int)) = (rc : Int) := by rw [IntKind.wrap_u32]; omega
                        have hbe := back_end TK.out (by rw [HPk.out]; exact hkm) U2s.out.1 (x := r) (by rw [HPk.out]; exact U2s.out.2.2.2)
                        rw [HPk.out, hrc, HWv.out, HNi3.out] at hbe
                        obtain ⟨u5, hu5⟩ : ∃ u5, u3.set p rc = u5 := ⟨_, rfl⟩
                        have aun := AUy.out.set p (.int .u32 (rc : Int))
                        rw [wc_set, hu5] at aun
                        rw [hu5] at hbe
                        have U5s := Lib.hid (show u5.length = m ∧ Sd u5 ∧ (∀ q, q < k ∨ k + i + 3 ≤ q → u5.getD q 0 = u.getD q 0) from by
                          subst hu5
                          refine ⟨by rw [List.length_set]; exact TK.out.len, small_set u3 _ _ TK.out.small (by omega), fun q hq => ?_⟩
                          have := Hp.out
                          rw [BigMulW.getD_set_ne _ _ _ _ (by omega), TK.out.keep q (by have := Hi.out; omega)]
                          exact U2s.out.2.2.1 q hq)
                        have hend := Lib.hid (end_wrong rfl HQ2.out hV0 (Nat.le_of_lt (Nat.lt_of_lt_of_le HVn.out (Nat.pow_le_pow_right (by decide) (show n ≤ i + 3 by have := Hi.out; omega)))) HE.out HWl.out hbe (win_lt U5s.out.2.1 k (i + 3)))
                        have HQe := Lib.hid (show h1 = W / V by have := hend.out.1; have := HH1.out; omega)
                        have AUn := Lib.hid aun
                        have AOn := Lib.hid (AOy.out.other ⟨gu, p, none⟩ (.int .u32 (rc : Int)) (show gu ≠ go from Nat.ne_of_lt hug))
                        have BBn := Lib.hid (BBy.out.setCell (p := ⟨gu, p, none⟩) (Nat.le_refl _) (.int .u32 (rc : Int)))
                        clear hkeep hrc hbe hu5 aun
                        go_wp2_with fail
                        go_meet
                        case rel => exact ⟨u5, by rw [HQe.out], AUn.out, U5s.out.1, U5s.out.2.1, hend.out.2, U5s.out.2.2, AOn.out, BBn.out⟩
                  · have tt : ((t5 : Int) == 1) = false := by rw [beq_eq_false_iff_ne]; omega
                    have he := HTe.out
                    rw [HWv.out, HNi3.out, HWw.out, show t5 = 0 by omega, Nat.zero_mul, Nat.add_zero] at he
                    have hend := Lib.hid (end_right rfl HQ1.out hV0 he)
                    clear he
                    go_wp2_with fail
                    go_meet
                    case rel => exact ⟨u2, by rw [hend.out.1], AUn.out, U2s.out.1, U2s.out.2.1, hend.out.2, U2s.out.2.2.1, AOn.out, BBn.out⟩
                case rest =>
                  obtain ⟨u4, hq4, aun, ul4, us4, hw4, keep4, aon, bbn⟩ := hcut
                  rename World => wz
                  have hpd := fun D hD => place_done (D := D) (by rw [ul4, UL.out]) (by rw [UL.out]; have := Hp.out; omega) HWw.out.symm HG0.out.1 hw4 keep4 HVal.out hV0 hD
                  obtain ⟨Q, hQ⟩ : ∃ Q, W / V = Q := ⟨_, rfl⟩
                  have hQl := HWV.out
                  rw [hQ] at hq4 hQl hpd
                  subst hq4
                  have hok : k < o.length := by rw [OL.out]; omega
                  have hzk := HZr.out k (Nat.lt_succ_self k)
                  have co := cell_of aon hok hzk
                  have fo := aon.frozen k
                  have eQ : IntKind.u32.wrap (Q : Int) = (Q : Int) := by rw [IntKind.wrap_u32]; omega
                  have ek1 : IntKind.i64.wrap ((k : Int) - 1) = (k : Int) - 1 := IntWalk.i64_in _ (by omega)
                  have hds := dval_set o k Q hok
                  rw [show o[k] = 0 by rw [List.getD_eq_getElem?_getD, List.getElem?_eq_getElem hok] at hzk; exact hzk, Nat.zero_mul, Nat.add_zero] at hds
                  have HPd := Lib.hid (hpd _ hds)
                  have ao5 := aon.set k (.int .u32 (Q : Int))
                  rw [wc_set] at ao5
                  have AO5 := Lib.hid ao5
                  have AU5 := Lib.hid (aun.other ⟨go, k, none⟩ (.int .u32 (Q : Int)) (show go ≠ gu from Nat.ne_of_gt hug))
                  have BB5 := Lib.hid (bbn.setCell (p := ⟨go, k, none⟩) (Nat.le_of_lt hug) (.int .u32 (Q : Int)))
                  have O5 := Lib.hid (show (o.set k Q).length = m ∧ Sd (o.set k Q) ∧ ∀ p, p < k → (o.set k Q).getD p 0 = 0 from ⟨by rw [List.length_set]; exact OL.out, small_set o _ _ OS.out hQl, fun p hp => by
                    rw [BigMulW.getD_set_ne _ _ _ _ (by omega)]
                    exact HZr.out p (by omega)⟩)
                  have U4 := Lib.hid (show u4.length = m ∧ Sd u4 from ⟨ul4, us4⟩)
                  have hkm2 : k < m := by omega
                  clear aun ul4 us4 hw4 keep4 aon bbn hpd hQ hzk hds ao5 hok
                  go_wp2
                  go_roundw
                  case rel => exact ⟨k, u4, _, by omega, rfl, AU5.out, U4.out.1, U4.out.2, AO5.out, O5.out.1, O5.out.2.1, HPd.out.1, HPd.out.2, O5.out.2.2, BB5.out⟩
                  case measure => simp [intOf]
end Go.Proofs.YtfngomlknhappaaDoor.BigPart2W

/-
  The document's own whole numbers: QuoRem by a number above 0. Conditions: in the statement.
-/
namespace Go.Proofs.YtfngomlknhappaaDoor.BigQuoW
open Go.RowKit BytesW CellsW WordsW ArrW BigW BigNewW BigMulW BigM BigCmpW BigSetNW BigNegW BigAddW BigSubW BigU64W BigPart1W BigPart2W

/-- What may be written: two blocks. -/
structure G2 (w w' : World) (a b : Nat) : Prop where
  os : w'.os = w.os
  tape : w'.tape = w.tape
  output : w'.output = w.output
  size : w.heap.size ≤ w'.heap.size
  block : ∀ k, k < w.heap.size → k ≠ a → k ≠ b → w'.heap[k]? = w.heap[k]?
theorem G2.of1 {w w' : World} {a : Nat} (b : Nat) (h : w.grownBy w' (some a)) : G2 w w' a b := ⟨h.os, h.tape, h.output, h.size, fun k hk h1 _ => h.block k hk (fun e => h1 (by cases e; rfl))⟩
theorem G2.of2 {w w' : World} {b : Nat} (a : Nat) (h : w.grownBy w' (some b)) : G2 w w' a b := ⟨h.os, h.tape, h.output, h.size, fun k hk _ h2 => h.block k hk (fun e => h2 (by cases e; rfl))⟩
theorem G2.below {w w' : World} (a b : Nat) (h : Below w.heap.size w w') : G2 w w' a b := ⟨h.os, h.tape, h.output, h.size, fun k hk _ _ => h.block k hk⟩
theorem G2.trans {u v w : World} {a b : Nat} (h : G2 u v a b) (k : G2 v w a b) : G2 u w a b :=
  ⟨k.os.trans h.os, k.tape.trans h.tape, k.output.trans h.output, Nat.le_trans h.size k.size, fun i hi h1 h2 => (k.block i (Nat.lt_of_lt_of_le hi h.size) h1 h2).trans (h.block i hi h1 h2)⟩
/-- One of the two is new. -/
theorem G2.fresh {u v w : World} {a b : Nat} (h : Below u.heap.size u v) (k : G2 v w a b) (ha : u.heap.size ≤ a) : u.grownBy w (some b) :=
  ⟨k.os.trans h.os, k.tape.trans h.tape, k.output.trans h.output, Nat.le_trans h.size k.size, fun i hi h2 => (k.block i (Nat.lt_of_lt_of_le hi h.size) (by omega) (fun e => h2 (by rw [e]))).trans (h.block i hi)⟩
theorem arr_keep {w w' : World} {g a : Nat} {t : TypeId} {xs : List Value} (h : Arr w g t xs) (k : w.grownBy w' (some a)) (hne : g ≠ a) : Arr w' g t xs := (k.block g h.lt (fun e => hne (by cases e; rfl))).trans h
theorem us_keep {w w' : World} {gz : Nat} {t : TypeId} {b : Bool} {Az A : Option Addr} {n c : Nat} {d : List Nat} (hz : Arr w gz t [.bool b, .slice Az n c]) (hu : Us w w.heap.size A d) (hg : w.grownBy w' (some gz)) : Us w' w'.heap.size A d := by
  intro h0
  obtain ⟨ad, e, hbl⟩ := us_apart hz hu h0
  obtain ⟨ad', e', hlt, hcl⟩ := hu h0
  rw [e] at e'
  cases e'
  exact ⟨ad, e, Nat.lt_of_lt_of_le hlt hg.size, fun k hk => (World.cell?_of_block (hg.block _ (by rw [add_block]; exact hlt) (by rw [add_block]; exact fun q => hbl (by cases q; rfl)))).trans (hcl k hk)⟩
theorem shape_keep {w w' : World} {g a : Nat} (h : Shape w g) (k : w.grownBy w' (some a)) (hne : g ≠ a) : Shape w' g := by
  obtain ⟨b, A, n, c, ha⟩ := h
  exact ⟨b, A, n, c, arr_keep ha k hne⟩
theorem set_size (w : World) (p : Addr) (u : Value) : (w.setCell p u).heap.size = w.heap.size := by simp

theorem trim_len (n : Nat) : (dg n).length ≤ 2 := by
  unfold dg trimL
  rw [List.length_take]
  simp
  omega

theorem trims_any (gz gr : Nat) (bz br : Bool) (Az Ar : Option Addr) (Q R : List Nat) (cz cr : Nat) (W : World) (az : Arr W gz 34 [.bool bz, .slice Az Q.length cz]) (ar : Arr W gr 34 [.bool br, .slice Ar R.length cr]) (uz : Us W W.heap.size Az Q) (ur : Us W W.heap.size Ar R) (hz : Q.length ≤ cz) (hr : R.length ≤ cr) (sq : Sd Q) (sr : Sd R) (lq : Q.length ≤ 2000000) (lr : R.length ≤ 2000000) (hne : gz ≠ gr) :
    Calls Tryd.prog 42 #[.pointer (some ⟨gz, 0, none⟩)] W fun e W1 => e = .returned (.pointer (some ⟨gz, 0, none⟩)) ∧ Calls Tryd.prog 42 #[.pointer (some ⟨gr, 0, none⟩)] W1 fun e W2 => e = .returned (.pointer (some ⟨gr, 0, none⟩)) ∧ IntV W2 gz (sgn bz (dval Q)) ∧ IntV W2 gr (sgn br (dval R)) ∧ G2 W W2 gz gr := by
  refine (trim_any gz bz Az Q cz W az uz hz sq (by omega)).mono ?_
  rintro e W1 ⟨rfl, hi, hg⟩
  refine ⟨rfl, ?_⟩
  have ar1 := arr_keep ar hg (fun e => hne e.symm)
  have ur1 := us_keep az ur hg
  refine (trim_any gr br Ar R cr W1 ar1 ur1 hr sr (by omega)).mono ?_
  rintro e W2 ⟨rfl, hi2, hg2⟩
  refine ⟨rfl, ⟨_, _, intAt_keep hi ar1 hg2 hne, (sgn_trim bz Q).symm, trim_ne bz Q⟩, ⟨_, _, hi2, (sgn_trim br R).symm, trim_ne br R⟩, (G2.of1 gr hg).trans (G2.of2 gz hg2)⟩

set_option maxHeartbeats 2000000 in
set_option maxRecDepth 100000 in
theorem quorem_any (gz gx gy gr : Nat) (x : Int) (Y : Nat) (w : World) (hz : Shape w gz) (hr : Shape w gr) (hx : IntV w gx x) (hy : IntV w gy (Y : Int)) (hY : 0 < Y) (bx : x.natAbs < BIG) (bY : Y < BIG) (nzr : gz ≠ gr) :
    Calls Tryd.prog 64 #[.pointer (some ⟨gz, 0, none⟩), .pointer (some ⟨gx, 0, none⟩), .pointer (some ⟨gy, 0, none⟩), .pointer (some ⟨gr, 0, none⟩)] w fun e w' => e = .returned (.tuple #[.pointer (some ⟨gz, 0, none⟩), .pointer (some ⟨gr, 0, none⟩)]) ∧ IntV w' gz (sgn (decide (x < 0)) (x.natAbs / Y)) ∧ IntV w' gr (sgn (decide (x < 0)) (x.natAbs % Y)) ∧ G2 w w' gz gr := by
  obtain ⟨nx, dx, hix, rfl, hnx⟩ := hx
  obtain ⟨ny, dy, hiy, hye, hny⟩ := hy
  have hdec : decide (sgn nx (dval dx) < 0) = nx := by
    cases nx with
    | true =>
      have := dval_pos hix.2.2 (hnx rfl)
      exact decide_eq_true (by unfold sgn; rw [if_pos rfl]; omega)
    | false => exact decide_eq_false (by unfold sgn; simp)
  have hyf : ny = false := by
    cases ny with
    | true =>
      have := dval_pos hiy.2.2 (hny rfl)
      unfold sgn at hye
      rw [if_pos rfl] at hye
      omega
    | false => rfl
  subst hyf
  have hYd : Y = dval dy := by unfold sgn at hye; simp at hye; omega
  subst hYd
  rw [sgn_abs] at bx
  rw [hdec, sgn_abs]
  have lx := len_big hix.2.2 bx
  have ly := len_big hiy.2.2 bY
  have HIX := Lib.hid hix
  have HIY := Lib.hid hiy
  have HZ := Lib.hid hz
  have HR := Lib.hid hr
  have HNx := Lib.hid hnx
  have HY := Lib.hid hY
  have HC := Lib.hid (cmpabs_any gx gy nx false dx dy w hix hiy (by omega) (by omega))
  clear hdec hye hny bx bY hix hiy hz hr hnx hY
  by_cases hlt : dval dx < dval dy
  · rw [cmpN_lt hlt] at HC
    rw [Nat.div_eq_of_lt hlt, Nat.mod_eq_of_lt hlt]
    clear hlt HY
    go_enter Tryd.func64, Tryd.ntmps64
    go_wp2_with fail
    refine HC.out.mono ?_
    clear HC
    rintro e w1 ⟨rfl, n, hw1⟩
    have hb1 : Below w.heap.size w w1 := by rw [hw1]; exact drewN_below w n
    have HS := Lib.hid (set_any gr gx nx dx w1 (shape_below HR.out hb1) (intAt_below HIX.out hb1) (by omega))
    have HB1 := Lib.hid hb1
    clear hb1 hw1
    go_wp2_with fail
    refine HS.out.mono ?_
    clear HS
    rintro e w2 ⟨rfl, hi2, hg2⟩
    obtain ⟨b0, A0, n0, c0, hz2⟩ := shape_keep (shape_below HZ.out HB1.out) hg2 nzr
    have HT := Lib.hid (seti_any gz 0 b0 A0 n0 c0 w2 (by decide) hz2)
    have HI2 := Lib.hid hi2
    have HG2 := Lib.hid hg2
    have HZ2 := Lib.hid hz2
    clear hi2 hg2 hz2
    go_wp2_with fail
    refine HT.out.mono ?_
    clear HT
    rintro e w3 ⟨rfl, hi3, hg3⟩
    go_wp2
    go_ret2
    refine ⟨rfl, ⟨false, _, hi3, by rw [dval_dg]; cases nx <;> rfl, fun h => by cases h⟩, ⟨nx, dx, intAt_keep HI2.out HZ2.out hg3 (fun e => nzr e.symm), rfl, HNx.out⟩, ?_⟩
    exact ((G2.below gz gr HB1.out).trans (G2.of2 gz HG2.out)).trans (G2.of1 gr hg3)
  · have tc : decide (cmpN (dval dx) (dval dy) < 0) = false := by
      apply decide_eq_false
      unfold cmpN
      rw [if_neg hlt]
      split <;> omega
    obtain ⟨cc, hcc⟩ : ∃ cc, cmpN (dval dx) (dval dy) = cc := ⟨_, rfl⟩
    rw [hcc] at tc HC
    have hlen : dy.length ≤ dx.length := by
      rcases Nat.lt_or_ge dx.length dy.length with h | h
      · exact absurd (dval_lt_len HIX.out.2.1 HIY.out.2.2 h) hlt
      · exact h
    have hy0 : 0 < dy.length := by
      rcases Nat.eq_zero_or_pos dy.length with h | h
      · have := HY.out
        rw [List.length_eq_zero_iff.1 h] at this
        exact absurd this (by decide)
      · exact h
    obtain ⟨Ax, cx, ax, ux, hcx⟩ := HIX.out.1
    obtain ⟨Ay, cy, ay, uy, hcy⟩ := HIY.out.1
    have HAx := Lib.hid ax
    have HAy := Lib.hid ay
    have HUx := Lib.hid ux
    have HUy := Lib.hid uy
    have kx0 : w.cell? ⟨gx, 0, none⟩ = some (.bool nx) := ax.cell 0
    have ky0 : w.cell? ⟨gy, 0, none⟩ = some (.bool false) := ay.cell 0
    have HLt := Lib.hid hlt
    clear ax ay ux uy hcx hcy hcc hlt
    go_enter Tryd.func64, Tryd.ntmps64
    go_wp2_with fail
    refine HC.out.mono ?_
    clear HC
    rintro e w1 ⟨rfl, n1, hw1⟩
    have hb1 : Below w.heap.size w w1 := by rw [hw1]; exact drewN_below w n1
    have HB1 := Lib.hid hb1
    have kx1 : w1.cell? ⟨gx, 0, none⟩ = some (.bool nx) := (HAx.out.below hb1 HAx.out.lt).cell 0
    have ky1 : w1.cell? ⟨gy, 0, none⟩ = some (.bool false) := (HAy.out.below hb1 HAy.out.lt).cell 0
    clear hb1 hw1 kx0 ky0
    go_upto_region 4 with (fail)
    go_quiet (fail)
    obtain ⟨w2, hw2⟩ : ∃ w2, w1.drewN nq = w2 := ⟨_, rfl⟩
    have hb2 : Below w1.heap.size w1 w2 := by rw [← hw2]; exact drewN_below w1 nq
    have HB2 := Lib.hid (HB1.out.trans (hb2.mono HB1.out.size))
    rw [hw2]
    have kx2 : w2.cell? ⟨gx, 1, none⟩ = some (.slice Ax dx.length cx) := (HAx.out.below HB2.out HAx.out.lt).cell 1
    clear hb2 hw2 kx1 ky1 HB1
    by_cases h3 : dx.length < 3
    · have t3 : decide ((dx.length : Int) < 3) = true := decide_eq_true (by omega)
      have lx2 : dval dx < 18446744073709551616 := Nat.lt_of_lt_of_le (dval_lt HIX.out.2.1) (Nat.pow_le_pow_right (by decide) (show dx.length ≤ 2 by omega))
      have hu1 := ulow_any gx nx dx w2 (intAt_below HIX.out HB2.out) (by omega)
      have hu2 := ulow_any gy false dy w2 (intAt_below HIY.out HB2.out) (by omega)
      rw [Nat.mod_eq_of_lt lx2] at hu1
      rw [Nat.mod_eq_of_lt (by have := HLt.out; omega)] at hu2
      have HU1 := Lib.hid hu1
      have HU2 := Lib.hid hu2
      have hyp := HY.out
      obtain ⟨X, hX⟩ : ∃ X, dval dx = X := ⟨_, rfl⟩
      obtain ⟨Y, hYe⟩ : ∃ Y, dval dy = Y := ⟨_, rfl⟩
      rw [hX, hYe] at HLt
      rw [hX] at HU1 lx2
      rw [hYe] at HU2 hyp HY
      have hYl : Y < 18446744073709551616 := by have := HLt.out; omega
      have hql : X / Y < 18446744073709551616 := Nat.lt_of_le_of_lt (Nat.div_le_self _ _) lx2
      have hml : X % Y < 18446744073709551616 := Nat.lt_trans (Nat.mod_lt _ hyp) hYl
      have eq1 : (X : Int).tdiv (Y : Int) = ((X / Y : Nat) : Int) := by rw [Int.tdiv_eq_ediv_of_nonneg (by omega)]; push_cast; rfl
      have eq2 : (X : Int) / (Y : Int) = ((X / Y : Nat) : Int) := by push_cast; rfl
      have em1 : (X : Int).tmod (Y : Int) = ((X % Y : Nat) : Int) := by rw [Int.tmod_eq_emod_of_nonneg (by omega)]; push_cast; rfl
      have em2 : (X : Int) % (Y : Int) = ((X % Y : Nat) : Int) := by push_cast; rfl
      obtain ⟨q, hq⟩ : ∃ q, X / Y = q := ⟨_, rfl⟩
      obtain ⟨r, hr⟩ : ∃ r, X % Y = r := ⟨_, rfl⟩
      rw [hq] at hql eq1 eq2
      rw [hr] at hml em1 em2
      have EQ := Lib.hid (show dval dx / dval dy = q by rw [hX, hYe, hq])
      have EM := Lib.hid (show dval dx % dval dy = r by rw [hX, hYe, hr])
      have y0 : ((Y : Int) == 0) = false := beq_eq_false_iff_ne.2 (by omega)
      have y1 : ¬ (Y : Int) = 0 := by omega
      have y2 : ¬ Y = 0 := by omega
      obtain ⟨b0, A0, n0, c0, hz2⟩ := shape_below HZ.out HB2.out
      have HS := Lib.hid (setu_any gz q b0 A0 n0 c0 w2 hql hz2)
      have HZ2 := Lib.hid hz2
      have HR2 := Lib.hid (shape_below HR.out HB2.out)
      clear hu1 hu2 HLt hX hYe hq hr hz2 hyp HIX HIY HUx HUy HAx HAy h3 lx ly hlen hy0
      go_wp2_with fail
      refine HU1.out.mono ?_
      clear HU1
      rintro e w' ⟨rfl, rfl⟩
      go_wp2_with fail
      refine HU2.out.mono ?_
      clear HU2
      rintro e w' ⟨rfl, rfl⟩
      go_wp2_with fail
      refine HS.out.mono ?_
      clear HS
      rintro e w3 ⟨rfl, hi3, hg3⟩
      obtain ⟨b1, A1, n1, c1, hr3⟩ := shape_keep HR2.out hg3 (fun e => nzr e.symm)
      have HS2 := Lib.hid (setu_any gr r b1 A1 n1 c1 w3 hml hr3)
      have HI3 := Lib.hid hi3
      have HG3 := Lib.hid hg3
      have HR3 := Lib.hid hr3
      clear hi3 hg3 hr3
      go_wp2_with fail
      refine HS2.out.mono ?_
      clear HS2
      rintro e w4 ⟨rfl, hi4, hg4⟩
      obtain ⟨⟨Az, cz, az, uz, hcz⟩, sz, -⟩ := intAt_keep HI3.out HR3.out hg4 nzr
      obtain ⟨⟨Ar, cr, ar, ur, hcr⟩, sr, -⟩ := hi4
      have kz0 : w4.cell? ⟨gz, 0, none⟩ = some (.bool false) := az.cell 0
      have fz0 := az.frozen 0
      have az5 := az.set 0 (.bool nx)
      have ar5 := ar.other ⟨gz, 0, none⟩ (.bool nx) (show gz ≠ gr from nzr)
      have uz5 := Us.other (k := 0) az uz (.bool nx)
      have ur5 := Us.other (k := 0) az ur (.bool nx)
      have kr0 : (w4.setCell ⟨gz, 0, none⟩ (.bool nx)).cell? ⟨gr, 0, none⟩ = some (.bool false) := ar5.cell 0
      have fr0 := ar5.frozen 0
      have ar6 := ar5.set 0 (.bool nx)
      simp only [List.set_cons_zero] at az5 ar6
      have az6 := az5.other ⟨gr, 0, none⟩ (.bool nx) (show gr ≠ gz from fun e => nzr e.symm)
      have uz6 := Us.other (k := 0) ar5 uz5 (.bool nx)
      have ur6 := Us.other (k := 0) ar5 ur5 (.bool nx)
      have g5 : G2 w4 ((w4.setCell ⟨gz, 0, none⟩ (.bool nx)).setCell ⟨gr, 0, none⟩ (.bool nx)) gz gr := (G2.of1 gr (grown_set w4 gz 0 _)).trans (G2.of2 gz (grown_set _ gr 0 _))
      have e5 : ((w4.setCell ⟨gz, 0, none⟩ (.bool nx)).setCell ⟨gr, 0, none⟩ (.bool nx)).heap.size = w4.heap.size := by simp
      have hG : G2 w ((w4.setCell ⟨gz, 0, none⟩ (.bool nx)).setCell ⟨gr, 0, none⟩ (.bool nx)) gz gr := (((G2.below gz gr HB2.out).trans (G2.of1 gr HG3.out)).trans (G2.of2 gz hg4)).trans g5
      rw [← e5] at uz6 ur6
      have ht := trims_any gz gr nx nx Az Ar (dg q) (dg r) cz cr _ az6 ar6 uz6 ur6 hcz hcr sz sr (by have := trim_len q; omega) (by have := trim_len r; omega) nzr
      rw [dval_dg, dval_dg] at ht
      have HT := Lib.hid ht
      have HG := Lib.hid hG
      clear az ar uz ur sz sr hg4 az5 ar5 uz5 ur5 az6 ar6 uz6 ur6 g5 e5 hG ht hcz hcr HI3 HG3 HR3
      go_wp2_with fail
      refine HT.out.mono ?_
      clear HT
      rintro e w6 ⟨rfl, h7⟩
      have H7 := Lib.hid h7
      clear h7
      go_wp2_with fail
      refine H7.out.mono ?_
      clear H7
      rintro e w7 ⟨rfl, i1, i2, g7⟩
      go_wp2
      go_ret2
      rw [EQ.out, EM.out]
      exact ⟨rfl, i1, i2, HG.out.trans g7⟩
    · have t3 : decide ((dx.length : Int) < 3) = false := decide_eq_false (by omega)
      have hb3 : Below w.heap.size w w2.drew := HB2.out.trans ((drew_below w2).mono HB2.out.size)
      have ky2 : w2.cell? ⟨gy, 1, none⟩ = some (.slice Ay dy.length cy) := (HAy.out.below HB2.out HAy.out.lt).cell 1
      have hpa : Calls Tryd.prog 66 #[.slice Ax dx.length cx, .slice Ay dy.length cy] w2.drew (Parts dx dy w2.drew) := by
        have hx' := (HUx.out.below hb3).more hb3.size
        have hy' := (HUy.out.below hb3).more hb3.size
        by_cases h1 : dy.length = 1
        · have hyp := HY.out
          have sy := HIY.out.2.1
          obtain ⟨y0, hy0e⟩ : ∃ y0, dy = [y0] := List.length_eq_one_iff.1 h1
          rw [hy0e] at hy' hyp sy ⊢
          exact parts1_any Ax dx cx Ay y0 cy w2.drew hx' hy' HIX.out.2.1 (sy y0 (by simp)) (by simpa [dval] using hyp) (by omega)
        · exact parts2_any Ax dx cx Ay dy cy w2.drew hx' hy' HIX.out.2.1 HIY.out.2.1 HIY.out.2.2 (by omega) hlen (by omega)
      have HPa := Lib.hid hpa
      have HB3 := Lib.hid hb3
      clear hpa hb3 HLt HIX HIY HUx HUy h3 hy0
      go_upto_region 11 with (fail)
      refine Phase.wp_region_phases [([], [0, 1, 2, 3, 4, 5, 6, 7], some 8), ([9, 10, 11, 12, 13], [], none)] (fun W => W = w2.drew) (by kernel_rfl) (by kernel_rfl) (fun _ _ d _ _ h => by cases d <;> exact h) rfl ?_
      refine Phase.g_alone rfl (Phase.p_nil ?_)
      iterate 8 (refine Phase.q_step rfl (fun K hK => ?_); go_simp; refine hK _ ?_; clear hK K)
      refine Phase.q_nil ?_
      rintro _ rfl K hK
      go_simp
      refine HPa.out.mono ?_
      clear HPa
      rintro e w3 ⟨Aq, Am, Q, M, cq, cm, rfl, uq, um, hcq, hcm, sq, sm, vq, vm, lq, lm, b3⟩
      refine hK _ _ ⟨fun W => W = w3, rfl, ?_⟩
      have HB4 := Lib.hid (HB3.out.trans (b3.mono HB3.out.size))
      have Uq := Lib.hid uq
      have Um := Lib.hid um
      have Sq' := Lib.hid sq
      have Sm' := Lib.hid sm
      have Vq := Lib.hid vq
      have Vm := Lib.hid vm
      have Lq := Lib.hid (show Q.length ≤ 2000000 by omega)
      have Lm := Lib.hid (show M.length ≤ 2000000 by omega)
      have Cq := Lib.hid hcq
      have Cm := Lib.hid hcm
      clear hK K b3 uq um sq sm vq vm lq lm hcq hcm HB3 kx2 ky2
      refine Phase.g_quiet ?_
      iterate 5 (refine Phase.p_step rfl (fun K hK => ?_); go_simp; refine hK _ ?_; clear hK K)
      refine Phase.p_nil (Phase.q_nil (Phase.g_nil ?_))
      intro wz hwz
      rw [show wz = w3 from hwz]
      clear hwz wz
      obtain ⟨b0, A0, n0, c0, az⟩ := shape_below HZ.out HB4.out
      obtain ⟨b1, A1, n1', c1, ar⟩ := shape_below HR.out HB4.out
      have kz0 : w3.cell? ⟨gz, 0, none⟩ = some (.bool b0) := az.cell 0
      have fz0 := az.frozen 0
      have az5 := az.set 0 (.bool nx)
      simp only [List.set_cons_zero] at az5
      have fz1 := az5.frozen 1
      have kz1 : (w3.setCell ⟨gz, 0, none⟩ (.bool nx)).cell? ⟨gz, 1, none⟩ = some (.slice A0 n0 c0) := az5.cell 1
      have az6 := az5.set 1 (.slice Aq Q.length cq)
      simp only [List.set_cons_zero, List.set_cons_succ] at az6
      have ar5 := ar.other ⟨gz, 0, none⟩ (.bool nx) (show gz ≠ gr from nzr)
      have ar6 := ar5.other ⟨gz, 1, none⟩ (.slice Aq Q.length cq) (show gz ≠ gr from nzr)
      have uq6 := Us.other (k := 1) az5 (Us.other (k := 0) az Uq.out (.bool nx)) (.slice Aq Q.length cq)
      have um6 := Us.other (k := 1) az5 (Us.other (k := 0) az Um.out (.bool nx)) (.slice Aq Q.length cq)
      have g6 : G2 w ((w3.setCell ⟨gz, 0, none⟩ (.bool nx)).setCell ⟨gz, 1, none⟩ (.slice Aq Q.length cq)) gz gr := (G2.below gz gr HB4.out).trans ((G2.of1 gr (grown_set w3 gz 0 _)).trans (G2.of1 gr (grown_set _ gz 1 _)))
      have e6 : ((w3.setCell ⟨gz, 0, none⟩ (.bool nx)).setCell ⟨gz, 1, none⟩ (.slice Aq Q.length cq)).heap.size = w3.heap.size := by simp
      obtain ⟨w6, hw6⟩ : ∃ w6, (w3.setCell ⟨gz, 0, none⟩ (.bool nx)).setCell ⟨gz, 1, none⟩ (.slice Aq Q.length cq) = w6 := ⟨_, rfl⟩
      rw [hw6] at az6 ar6 uq6 um6 g6 e6
      have HW6 := Lib.hid hw6
      have AZ6 := Lib.hid az6
      have AR6 := Lib.hid ar6
      have UQ6 := Lib.hid uq6
      have UM6 := Lib.hid um6
      have G6 := Lib.hid g6
      have E6 := Lib.hid e6
      clear az ar az5 ar5 az6 ar6 uq6 um6 g6 e6 hw6
      go_upto_region 13 with (fail)
      rw [HW6.out]
      have kr0 : w6.cell? ⟨gr, 0, none⟩ = some (.bool b1) := AR6.out.cell 0
      have fr0 := AR6.out.frozen 0
      have ar7 := AR6.out.set 0 (.bool nx)
      simp only [List.set_cons_zero] at ar7
      have fr1 := ar7.frozen 1
      have kr1 : (w6.setCell ⟨gr, 0, none⟩ (.bool nx)).cell? ⟨gr, 1, none⟩ = some (.slice A1 n1' c1) := ar7.cell 1
      have ar8 := ar7.set 1 (.slice Am M.length cm)
      simp only [List.set_cons_zero, List.set_cons_succ] at ar8
      have az7 := AZ6.out.other ⟨gr, 0, none⟩ (.bool nx) (show gr ≠ gz from fun e => nzr e.symm)
      have az8 := az7.other ⟨gr, 1, none⟩ (.slice Am M.length cm) (show gr ≠ gz from fun e => nzr e.symm)
      have uq8 := Us.other (k := 1) ar7 (Us.other (k := 0) AR6.out UQ6.out (.bool nx)) (.slice Am M.length cm)
      have um8 := Us.other (k := 1) ar7 (Us.other (k := 0) AR6.out UM6.out (.bool nx)) (.slice Am M.length cm)
      have g8 : G2 w6 ((w6.setCell ⟨gr, 0, none⟩ (.bool nx)).setCell ⟨gr, 1, none⟩ (.slice Am M.length cm)) gz gr := (G2.of2 gz (grown_set w6 gr 0 _)).trans (G2.of2 gz (grown_set _ gr 1 _))
      have e8 : ((w6.setCell ⟨gr, 0, none⟩ (.bool nx)).setCell ⟨gr, 1, none⟩ (.slice Am M.length cm)).heap.size = w6.heap.size := by simp
      obtain ⟨w8, hw8⟩ : ∃ w8, (w6.setCell ⟨gr, 0, none⟩ (.bool nx)).setCell ⟨gr, 1, none⟩ (.slice Am M.length cm) = w8 := ⟨_, rfl⟩
      rw [hw8] at az8 ar8 uq8 um8 g8 e8
      have HW8 := Lib.hid hw8
      have HT := Lib.hid (trims_any gz gr nx nx Aq Am Q M cq cm w8 az8 ar8 (by rw [e8, E6.out]; exact uq8) (by rw [e8, E6.out]; exact um8) Cq.out Cm.out Sq'.out Sm'.out Lq.out Lm.out nzr)
      have G8 := Lib.hid (G6.out.trans g8)
      clear ar7 ar8 az7 az8 uq8 um8 g8 e8 hw8 kz0 fz0 kz1 fz1 AZ6 AR6 UQ6 UM6 G6 E6 HW6
      go_upto_region 14 with (fail)
      rw [HW8.out]
      clear kr0 fr0 kr1 fr1 HW8
      go_wp2_with fail
      refine HT.out.mono ?_
      clear HT
      rintro e w9 ⟨rfl, h9⟩
      have H9 := Lib.hid h9
      clear h9
      go_wp2_with fail
      refine H9.out.mono ?_
      clear H9
      rintro e w10 ⟨rfl, i1, i2, g10⟩
      go_wp2
      go_ret2
      rw [← Vq.out, ← Vm.out]
      exact ⟨rfl, i1, i2, G8.out.trans g10⟩
end Go.Proofs.YtfngomlknhappaaDoor.BigQuoW

/-
  The document's own whole numbers: DivMod and Mod by a number above 0. Conditions: in each statement.
-/
namespace Go.Proofs.YtfngomlknhappaaDoor.BigModW
open Go.RowKit BytesW CellsW WordsW ArrW BigW BigNewW BigMulW BigM BigCmpW BigSetNW BigNegW BigAddW BigSubW BigQuoW

theorem arr_g2 {w w' : World} {g a b : Nat} {t : TypeId} {xs : List Value} (h : Arr w g t xs) (k : G2 w w' a b) (h1 : g ≠ a) (h2 : g ≠ b) : Arr w' g t xs := (k.block g h.lt h1 h2).trans h
theorem shape_g2 {w w' : World} {g a b : Nat} (h : Shape w g) (k : G2 w w' a b) (h1 : g ≠ a) (h2 : g ≠ b) : Shape w' g := by
  obtain ⟨z, A, n, c, ha⟩ := h
  exact ⟨z, A, n, c, arr_g2 ha k h1 h2⟩
theorem intV_g2 {w w' : World} {g a b : Nat} {x : Int} (h : IntV w g x) (ha : Shape w a) (hb : Shape w b) (k : G2 w w' a b) (h1 : g ≠ a) (h2 : g ≠ b) : IntV w' g x := by
  obtain ⟨n, d, ⟨⟨A, c, ar, u, hc⟩, hs, ht⟩, e, hn⟩ := h
  obtain ⟨z1, A1, n1, c1, ha⟩ := ha
  obtain ⟨z2, A2, n2, c2, hb⟩ := hb
  refine ⟨n, d, ⟨⟨A, c, arr_g2 ar k h1 h2, fun h0 => ?_, hc⟩, hs, ht⟩, e, hn⟩
  obtain ⟨ad, e1, hl1⟩ := us_apart ha u h0
  obtain ⟨ad2, e2, hl2⟩ := us_apart hb u h0
  obtain ⟨ad3, e3, hlt, hcl⟩ := u h0
  rw [e1] at e2 e3
  cases e2
  cases e3
  exact ⟨ad, e1, Nat.lt_of_lt_of_le hlt k.size, fun i hi => (World.cell?_of_block (k.block _ (by rw [add_block]; exact hlt) (by rw [add_block]; exact hl1) (by rw [add_block]; exact hl2))).trans (hcl i hi)⟩
theorem setv_any (gz gx : Nat) (x : Int) (w : World) (hz : Shape w gz) (hx : IntV w gx x) (bx : x.natAbs < BIG) :
    Calls Tryd.prog 57 #[.pointer (some ⟨gz, 0, none⟩), .pointer (some ⟨gx, 0, none⟩)] w fun e w' => e = .returned (.pointer (some ⟨gz, 0, none⟩)) ∧ IntV w' gz x ∧ w.grownBy w' (some gz) := by
  obtain ⟨n, d, hi, rfl, hn⟩ := hx
  rw [sgn_abs] at bx
  refine (set_any gz gx n d w hz hi (by have := len_big hi.2.2 bx; omega)).mono ?_
  rintro e w' ⟨rfl, h1, h2⟩
  exact ⟨rfl, ⟨n, d, h1, rfl, hn⟩, h2⟩
theorem newv_any (n : Nat) (w : World) (hn : n < 9223372036854775808) :
    Calls Tryd.prog 35 #[.int .i64 (n : Int)] w fun e w' => e = .returned (.pointer (some ⟨w.heap.size, 0, none⟩)) ∧ IntV w' w.heap.size (n : Int) ∧ Below w.heap.size w w' := by
  refine (newint_any n n rfl w hn).mono ?_
  rintro e w' ⟨rfl, h1, h2⟩
  exact ⟨rfl, ⟨false, dg n, h1, by rw [dval_dg]; rfl, fun h => by cases h⟩, h2⟩

/-- Rounded down, what is left not below 0. -/
theorem floored (x : Int) (Y : Nat) (hY : 0 < Y) :
    (¬ sgn (decide (x < 0)) (x.natAbs % Y) < 0 → sgn (decide (x < 0)) (x.natAbs / Y) = x / (Y : Int) ∧ sgn (decide (x < 0)) (x.natAbs % Y) = x % (Y : Int)) ∧
    (sgn (decide (x < 0)) (x.natAbs % Y) < 0 → sgn (decide (x < 0)) (x.natAbs / Y) - 1 = x / (Y : Int) ∧ sgn (decide (x < 0)) (x.natAbs % Y) + (Y : Int) = x % (Y : Int)) := by
  have hd := Nat.div_add_mod x.natAbs Y
  have hm := Nat.mod_lt x.natAbs hY
  have hd' : (Y : Int) * ((x.natAbs / Y : Nat) : Int) + ((x.natAbs % Y : Nat) : Int) = (x.natAbs : Int) := by exact_mod_cast hd
  obtain ⟨q, hq⟩ : ∃ q, x.natAbs / Y = q := ⟨_, rfl⟩
  obtain ⟨r, hr⟩ : ∃ r, x.natAbs % Y = r := ⟨_, rfl⟩
  rw [hq, hr] at hd'
  rw [hr] at hm
  rw [hq, hr]
  have key : ∀ a b : Int, b + (Y : Int) * a = x → 0 ≤ b → b < Y → a = x / (Y : Int) ∧ b = x % (Y : Int) := fun a b h1 h2 h3 => by
    have := (Int.ediv_emod_unique (a := x) (b := Y) (r := b) (q := a) (by omega)).2 ⟨h1, h2, h3⟩
    exact ⟨this.1.symm, this.2.symm⟩
  by_cases hx : x < 0
  · rw [decide_eq_true hx]
    have e1 : sgn true r = -(r : Int) := rfl
    have e2 : sgn true q = -(q : Int) := rfl
    rw [e1, e2]
    constructor
    · intro h
      refine key _ _ ?_ (by omega) (by omega)
      rw [Int.mul_neg]
      omega
    · intro h
      refine key _ _ ?_ (by omega) (by omega)
      rw [Int.mul_sub, Int.mul_neg, Int.mul_one]
      omega
  · rw [decide_eq_false hx]
    have e1 : sgn false r = (r : Int) := rfl
    have e2 : sgn false q = (q : Int) := rfl
    rw [e1, e2]
    constructor
    · intro h
      refine key _ _ ?_ (by omega) (by omega)
      omega
    · intro h
      omega

set_option maxHeartbeats 2000000 in
set_option maxRecDepth 100000 in
theorem divmod_any (gz gx gy gm : Nat) (x : Int) (Y : Nat) (w : World) (hz : Shape w gz) (hm : Shape w gm) (hx : IntV w gx x) (hy : IntV w gy (Y : Int)) (hY : 0 < Y) (bx : x.natAbs < BIG) (bY : Y < BIG) (nzm : gz ≠ gm) :
    Calls Tryd.prog 55 #[.pointer (some ⟨gz, 0, none⟩), .pointer (some ⟨gx, 0, none⟩), .pointer (some ⟨gy, 0, none⟩), .pointer (some ⟨gm, 0, none⟩)] w fun e w' => e = .returned (.tuple #[.pointer (some ⟨gz, 0, none⟩), .pointer (some ⟨gm, 0, none⟩)]) ∧ IntV w' gz (x / (Y : Int)) ∧ IntV w' gm (x % (Y : Int)) ∧ G2 w w' gz gm := by
  have hS := setv_any w.heap.size gy (Y : Int) (w.alloc zeroObj) (zero_shape w) (intV_below hy (zero_below w)) (by simpa using bY)
  unfold zeroObj at hS
  have HS := Lib.hid hS
  have HZ := Lib.hid hz
  have HM := Lib.hid hm
  have HX := Lib.hid hx
  have HY := Lib.hid hy
  have lz : gz < w.heap.size := by obtain ⟨_, _, _, _, h⟩ := hz; exact h.lt
  have lm : gm < w.heap.size := by obtain ⟨_, _, _, _, h⟩ := hm; exact h.lt
  have LZ := Lib.hid (show w.heap.size ≠ gz by omega)
  have LM := Lib.hid (show w.heap.size ≠ gm by omega)
  have HF := Lib.hid (floored x Y hY)
  have HYp := Lib.hid hY
  have BX := Lib.hid bx
  have BY := Lib.hid bY
  have HB0 := Lib.hid (zero_below w)
  unfold zeroObj at HB0
  have hsz : (w.alloc (.cells #[.bool false, .slice none 0 0] 34)).heap.size = w.heap.size + 1 := by simp
  have HSz := Lib.hid hsz
  clear hS hz hm hx hy lz lm hY bx bY hsz
  go_enter Tryd.func55, Tryd.ntmps55
  go_wp2_with fail
  refine HS.out.mono ?_
  clear HS
  rintro e w2 ⟨rfl, hi2, hg2⟩
  have hb2 : Below w.heap.size w w2 := HB0.out.trans (below_of_grown hg2 (Nat.le_refl _) (by rw [HSz.out]; omega))
  have HQ := Lib.hid (quorem_any gz gx gy gm x Y w2 (shape_below HZ.out hb2) (shape_below HM.out hb2) (intV_below HX.out hb2) (intV_below HY.out hb2) HYp.out BX.out BY.out nzm)
  have HI2 := Lib.hid hi2
  have HB2 := Lib.hid hb2
  obtain ⟨gd, hgd⟩ : ∃ gd, w.heap.size = gd := ⟨_, rfl⟩
  rw [hgd] at HI2 LZ LM ⊢
  clear hi2 hg2 hb2 hgd HB0
  go_wp2_with fail
  refine HQ.out.mono ?_
  clear HQ
  rintro e w3 ⟨rfl, iq, ir, g3⟩
  have HD3 := Lib.hid (intV_g2 HI2.out (shape_below HZ.out HB2.out) (shape_below HM.out HB2.out) g3 LZ.out LM.out)
  have HG3 := Lib.hid ((G2.below gz gm HB2.out).trans g3)
  have bq : (sgn (decide (x < 0)) (x.natAbs / Y)).natAbs < BIG := by rw [sgn_abs]; exact Nat.lt_of_le_of_lt (Nat.div_le_self _ _) BX.out
  have br : (sgn (decide (x < 0)) (x.natAbs % Y)).natAbs < BIG := by rw [sgn_abs]; exact Nat.lt_of_le_of_lt (Nat.mod_le _ _) BX.out
  obtain ⟨q, hq⟩ : ∃ q, sgn (decide (x < 0)) (x.natAbs / Y) = q := ⟨_, rfl⟩
  obtain ⟨r, hr⟩ : ∃ r, sgn (decide (x < 0)) (x.natAbs % Y) = r := ⟨_, rfl⟩
  rw [hq] at iq bq HF
  rw [hr] at ir br HF
  have HIq := Lib.hid iq
  have HIr := Lib.hid ir
  have HBq := Lib.hid bq
  have HBr := Lib.hid br
  clear g3 hq hr HI2 bq br
  obtain ⟨nr, dr, hir, hre, hnr⟩ := ir
  obtain ⟨Ar, cr, ar⟩ := intAt_arr hir
  have km : w3.cell? ⟨gm, 0, none⟩ = some (.bool nr) := ar.cell 0
  cases nr with
  | false =>
    have hnn : ¬ r < 0 := by rw [hre]; unfold sgn; simp
    obtain ⟨f1, f2⟩ := HF.out.1 (by omega)
    have F1 := Lib.hid f1
    have F2 := Lib.hid f2
    clear hir hre hnr ar hnn f1 f2 HF iq
    go_wp2
    go_ret2
    rw [← F1.out, ← F2.out]
    exact ⟨rfl, HIq.out, HIr.out, HG3.out⟩
  | true =>
    have hneg : r < 0 := by
      have := dval_pos hir.2.2 (hnr rfl)
      rw [hre]
      unfold sgn
      rw [if_pos rfl]
      omega
    obtain ⟨f1, f2⟩ := HF.out.2 hneg
    have F1 := Lib.hid f1
    have F2 := Lib.hid f2
    obtain ⟨nd, dd, hid', hde, hnd⟩ := HD3.out
    have hndf : nd = false := by
      cases nd with
      | false => rfl
      | true =>
        have := dval_pos hid'.2.2 (hnd rfl)
        unfold sgn at hde
        rw [if_pos rfl] at hde
        omega
    obtain ⟨Ad, cd, ad⟩ := intAt_arr hid'
    rw [hndf] at ad
    have kd : w3.cell? ⟨gd, 0, none⟩ = some (.bool false) := ad.cell 0
    have HN := Lib.hid (newv_any 1 w3 (by decide))
    clear hir hre hnr ar hneg f1 f2 HF iq hid' hde hnd hndf ad
    go_wp2_with fail
    refine HN.out.mono ?_
    clear HN
    rintro e w4 ⟨rfl, i4, b4⟩
    have HSu := Lib.hid (sub_any gz gz w3.heap.size q 1 w4 (intV_shape (intV_below HIq.out b4)) (intV_below HIq.out b4) i4 HBq.out (by decide +kernel))
    have HIr4 := Lib.hid (intV_below HIr.out b4)
    have HD4 := Lib.hid (intV_below HD3.out b4)
    have HZ4 := Lib.hid (intV_shape (intV_below HIq.out b4))
    have HG4 := Lib.hid (HG3.out.trans (G2.below gz gm b4))
    clear i4 b4 HIr HIq HD3 HG3 km kd
    go_wp2_with fail
    refine HSu.out.mono ?_
    clear HSu
    rintro e w5 ⟨rfl, i5, g5⟩
    have hir5 := intV_keep HIr4.out HZ4.out g5 (fun e => nzm e.symm)
    have HAd := Lib.hid (add_any gm gm gd r (Y : Int) w5 (intV_shape hir5) hir5 (intV_keep HD4.out HZ4.out g5 LZ.out) HBr.out (by simpa using BY.out))
    have HI5 := Lib.hid i5
    have HM5 := Lib.hid (intV_shape hir5)
    have HG5 := Lib.hid (HG4.out.trans (G2.of1 gm g5))
    clear i5 g5 hir5 HIr4 HD4 HZ4 HG4
    go_wp2_with fail
    refine HAd.out.mono ?_
    clear HAd
    rintro e w6 ⟨rfl, i6, g6⟩
    have HI6 := Lib.hid i6
    have HQ6 := Lib.hid (intV_keep HI5.out HM5.out g6 nzm)
    have HG6 := Lib.hid (HG5.out.trans (G2.of2 gz g6))
    clear i6 g6
    go_wp2
    go_ret2
    rw [← F1.out, ← F2.out]
    exact ⟨rfl, HQ6.out, HI6.out, HG6.out⟩

set_option maxHeartbeats 2000000 in
set_option maxRecDepth 100000 in
theorem mod_any (gm gx gy : Nat) (x : Int) (Y : Nat) (w : World) (hm : Shape w gm) (hx : IntV w gx x) (hy : IntV w gy (Y : Int)) (hY : 0 < Y) (bx : x.natAbs < BIG) (bY : Y < BIG) :
    Calls Tryd.prog 36 #[.pointer (some ⟨gm, 0, none⟩), .pointer (some ⟨gx, 0, none⟩), .pointer (some ⟨gy, 0, none⟩)] w fun e w' => e = .returned (.pointer (some ⟨gm, 0, none⟩)) ∧ IntV w' gm (x % (Y : Int)) ∧ w.grownBy w' (some gm) := by
  have lm : gm < w.heap.size := by obtain ⟨_, _, _, _, h⟩ := hm; exact h.lt
  have hD := divmod_any w.heap.size gx gy gm x Y (w.alloc zeroObj) (zero_shape w) (shape_below hm (zero_below w)) (intV_below hx (zero_below w)) (intV_below hy (zero_below w)) hY bx bY (by omega)
  have HB0 := Lib.hid (zero_below w)
  unfold zeroObj at hD HB0
  have HD := Lib.hid hD
  clear hD hm hx hy hY bx bY lm
  go_enter Tryd.func36, Tryd.ntmps36
  go_wp2_with fail
  refine HD.out.mono ?_
  clear HD
  rintro e w2 ⟨rfl, -, i2, g2⟩
  have HI := Lib.hid i2
  have HG := Lib.hid (G2.fresh HB0.out g2 (Nat.le_refl _))
  clear i2 g2 HB0
  go_wp2
  go_ret
  exact ⟨rfl, HI.out, HG.out⟩
end Go.Proofs.YtfngomlknhappaaDoor.BigModW
