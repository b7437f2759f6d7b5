/-
  Plain mathematics: both encodings are invertible, and what decodes is an encoding. No program is named here. Conditions: none.
-/
import Derived.Test.YtnbchnaehmbfcaaTextM
import Derived.Test.YtnbchnaehmbfcaaTextN
namespace Go.Proofs.Ytnbchnaehmbfcaa.TextP

theorem dig_hexD_fin : ∀ n : Fin 16, TextM.dig (TextM.hexD n.val) = some n.val := by decide +kernel
theorem dig_hexD (n : Nat) (h : n < 16) : TextM.dig (TextM.hexD n) = some n := dig_hexD_fin ⟨n, h⟩

theorem pair_self (c : UInt8) : TextM.pair (c.toNat / 16) (c.toNat % 16) = c := by
  unfold TextM.pair
  rw [Nat.div_add_mod]
  simp

theorem unhexF_hex (l acc : List UInt8) : TextM.unhexF acc (TextM.hex l) = (0, acc ++ l) := by
  induction l generalizing acc with
  | nil => simp [TextM.hex, TextM.unhexF]
  | cons c r ih =>
    have := c.toNat_lt
    simp only [TextM.hex, TextM.unhexF]
    rw [dig_hexD _ (by omega), dig_hexD _ (by omega)]
    dsimp only
    rw [ih, pair_self]
    simp

theorem unhex_hex (l : List UInt8) (h : l.length ≤ 16384) : TextM.unhex (TextM.hex l) = (0, l) := by
  unfold TextM.unhex
  rw [if_neg (by rw [TextM.hex_length]; omega), unhexF_hex]
  rfl

theorem hexD_dig_fin : ∀ c : Fin 256, (match TextM.dig (UInt8.ofNat c.val) with | some n => TextM.hexD n == UInt8.ofNat c.val | none => true) = true := by decide +kernel
theorem hexD_dig {c : UInt8} {n : Nat} (h : TextM.dig c = some n) : TextM.hexD n = c := by
  have := hexD_dig_fin ⟨c.toNat, c.toNat_lt⟩
  simp only [UInt8.ofNat_toNat] at this
  rw [h] at this
  exact beq_iff_eq.1 this

theorem pair_toNat (x y : Nat) (hx : x < 16) (hy : y < 16) : (TextM.pair x y).toNat = 16 * x + y := by
  unfold TextM.pair
  simp
  omega

theorem hex_unhexF (acc s u : List UInt8) (h : TextM.unhexF acc s = (0, u)) : ∃ t, u = acc ++ t ∧ TextM.hex t = s := by
  induction acc, s using TextM.unhexF.induct with
  | case1 acc => simp [TextM.unhexF] at h; exact ⟨[], by simp [h], rfl⟩
  | case2 acc a hd => simp [TextM.unhexF, hd] at h
  | case3 acc a x hd => simp [TextM.unhexF, hd] at h
  | case4 acc a b r hd => simp [TextM.unhexF, hd] at h
  | case5 acc a b r x hd hd2 => simp [TextM.unhexF, hd, hd2] at h
  | case6 acc a b r x hd y hd2 ih =>
    simp only [TextM.unhexF, hd, hd2] at h
    obtain ⟨t, rfl, ht⟩ := ih h
    refine ⟨TextM.pair x y :: t, by simp, ?_⟩
    have h1 := TextM.dig_lt hd
    have h2 := TextM.dig_lt hd2
    simp only [TextM.hex]
    rw [pair_toNat x y h1 h2, show (16 * x + y) / 16 = x by omega, show (16 * x + y) % 16 = y by omega, hexD_dig hd, hexD_dig hd2, ht]

theorem hex_unhex (s : List UInt8) (h : (TextM.unhex s).1 = 0) : TextM.hex (TextM.unhex s).2 = s := by
  unfold TextM.unhex at h ⊢
  split at h
  · simp at h
  · rename_i hs
    rw [if_neg hs]
    cases hu : TextM.unhexF [] s with
    | mk e u =>
      rw [hu] at h
      simp only at h
      subst h
      obtain ⟨t, h1, h2⟩ := hex_unhexF [] s u hu
      simp at h1
      subst h1
      exact h2

theorem unhexF_bad (acc s : List UInt8) (h : (TextM.unhexF acc s).1 ≠ 0) : (TextM.unhexF acc s).2 = [] := by
  induction acc, s using TextM.unhexF.induct with
  | case1 acc => simp [TextM.unhexF] at h
  | case2 acc a hd => simp [TextM.unhexF, hd]
  | case3 acc a x hd => simp [TextM.unhexF, hd]
  | case4 acc a b r hd => simp [TextM.unhexF, hd]
  | case5 acc a b r x hd hd2 => simp [TextM.unhexF, hd, hd2]
  | case6 acc a b r x hd y hd2 ih =>
    simp only [TextM.unhexF, hd, hd2] at h ⊢
    exact ih h

theorem unhex_bad (s : List UInt8) (h : (TextM.unhex s).1 ≠ 0) : (TextM.unhex s).2 = [] := by
  unfold TextM.unhex at h ⊢
  split
  · rfl
  · rename_i hs
    rw [if_neg hs] at h
    exact unhexF_bad [] s h

/- letters -/

theorem nums_four (a b c d : Nat) (ha : a < 64) (hb : b < 64) (hc : c < 64) (hd : d < 64) : TextN.nums [TextN.let_ a, TextN.let_ b, TextN.let_ c, TextN.let_ d] = some [a, b, c, d] := by
  simp [TextN.nums, TextN.num_let a ha, TextN.num_let b hb, TextN.num_let c hc, TextN.num_let d hd]
theorem nums_three (a b c : Nat) (ha : a < 64) (hb : b < 64) (hc : c < 64) : TextN.nums [TextN.let_ a, TextN.let_ b, TextN.let_ c] = some [a, b, c] := by
  simp [TextN.nums, TextN.num_let a ha, TextN.num_let b hb, TextN.num_let c hc]
theorem nums_two (a b : Nat) (ha : a < 64) (hb : b < 64) : TextN.nums [TextN.let_ a, TextN.let_ b] = some [a, b] := by
  simp [TextN.nums, TextN.num_let a ha, TextN.num_let b hb]

theorem rg_codeG (g : List UInt8) (h1 : 1 ≤ g.length) (h3 : g.length ≤ 3) : TextN.rg (TextN.codeG g) = (0, TextN.gv g) := by
  match g, h1, h3 with
  | [a], _, _ =>
    have := a.toNat_lt
    have e : TextN.codeG [a] = [TextN.let_ (TextN.gv [a] / 262144 % 64), TextN.let_ (TextN.gv [a] / 4096 % 64)] := rfl
    rw [e, TextN.rg_ok (nums_two _ _ (by omega) (by omega)) (by simp)]
    · simp [TextN.wv, TextN.gv]; omega
    · simp [TextN.wv, TextN.gv]; omega
  | [a, b], _, _ =>
    have := a.toNat_lt
    have := b.toNat_lt
    have e : TextN.codeG [a, b] = [TextN.let_ (TextN.gv [a, b] / 262144 % 64), TextN.let_ (TextN.gv [a, b] / 4096 % 64), TextN.let_ (TextN.gv [a, b] / 64 % 64)] := rfl
    rw [e, TextN.rg_ok (nums_three _ _ _ (by omega) (by omega) (by omega)) (by simp)]
    · simp [TextN.wv, TextN.gv]; omega
    · simp [TextN.wv, TextN.gv]; omega
  | [a, b, c], _, _ =>
    have := a.toNat_lt
    have := b.toNat_lt
    have := c.toNat_lt
    have e : TextN.codeG [a, b, c] = [TextN.let_ (TextN.gv [a, b, c] / 262144 % 64), TextN.let_ (TextN.gv [a, b, c] / 4096 % 64), TextN.let_ (TextN.gv [a, b, c] / 64 % 64), TextN.let_ (TextN.gv [a, b, c] % 64)] := rfl
    rw [e, TextN.rg_ok (nums_four _ _ _ _ (by omega) (by omega) (by omega) (by omega)) (by simp)]
    · simp [TextN.wv, TextN.gv]; omega
    · simp

theorem ofNat_eq (a : UInt8) (n : Nat) (h : n % 256 = a.toNat) : UInt8.ofNat n = a := by
  apply UInt8.toNat_inj.1
  simp [h]

theorem three_gv (g : List UInt8) (h1 : 1 ≤ g.length) (h3 : g.length ≤ 3) : (TextN.three (TextN.gv g)).take g.length = g := by
  match g, h1, h3 with
  | [a], _, _ =>
    have := a.toNat_lt
    simp only [TextN.three, TextN.gv, List.length_singleton, List.take_succ_cons, List.take_zero]
    rw [ofNat_eq a _ (by omega)]
  | [a, b], _, _ =>
    have := a.toNat_lt
    have := b.toNat_lt
    simp only [TextN.three, TextN.gv, List.length_cons, List.length_nil, List.take_succ_cons, List.take_zero]
    rw [ofNat_eq a _ (by omega), ofNat_eq b _ (by omega)]
  | [a, b, c], _, _ =>
    have := a.toNat_lt
    have := b.toNat_lt
    have := c.toNat_lt
    simp only [TextN.three, TextN.gv, List.length_cons, List.length_nil, List.take_succ_cons, List.take_zero]
    rw [ofNat_eq a _ (by omega), ofNat_eq b _ (by omega), ofNat_eq c _ (by omega)]

theorem uncodeF_group (acc g r : List UInt8) (h1 : 1 ≤ g.length) (h3 : g.length ≤ 3) (hr : g.length = 3 ∨ r = []) :
    TextN.uncodeF acc (TextN.codeG g ++ r) = TextN.uncodeF (acc ++ g) r := by
  have hl := TextN.codeG_length g h3
  have ht : (TextN.codeG g ++ r).take 4 = TextN.codeG g := by
    rcases hr with hr | rfl
    · rw [List.take_append_of_le_length (by omega), List.take_of_length_le (by omega)]
    · rw [List.append_nil, List.take_of_length_le (by omega)]
  have hd : (TextN.codeG g ++ r).drop 4 = r := by
    rcases hr with hr | rfl
    · rw [List.drop_append_of_le_length (by omega), List.drop_of_length_le (by omega)]; rfl
    · rw [List.append_nil, List.drop_of_length_le (by omega)]
  have hrg := rg_codeG g h1 h3
  rw [TextN.uncodeF_go _ _ (by intro h; have := congrArg List.length h; simp [hl] at this) (by rw [ht, hrg]), ht, hd, hrg, hl]
  simp only [Nat.add_sub_cancel]
  rw [three_gv g h1 h3]

theorem uncodeF_code (l acc : List UInt8) : TextN.uncodeF acc (TextN.code l) = (0, acc ++ l) := by
  induction l using TextN.code.induct generalizing acc with
  | case1 a b c r ih =>
    rw [TextN.code, uncodeF_group _ _ _ (by simp) (by simp) (Or.inl rfl), ih]
    simp
  | case2 a b =>
    have := uncodeF_group acc [a, b] [] (by simp) (by simp) (Or.inr rfl)
    rw [List.append_nil] at this
    rw [TextN.code, this, TextN.uncodeF_nil]
  | case3 a =>
    have := uncodeF_group acc [a] [] (by simp) (by simp) (Or.inr rfl)
    rw [List.append_nil] at this
    rw [TextN.code, this, TextN.uncodeF_nil]
  | case4 => rw [TextN.code, TextN.uncodeF_nil]; simp

theorem uncode_code (l : List UInt8) (h : l.length ≤ 16384) : TextN.uncode (TextN.code l) = (0, l) := by
  unfold TextN.uncode
  rw [if_neg (by rw [TextN.code_length]; omega), uncodeF_code]
  rfl

theorem rg_zero {g : List UInt8} (h : (TextN.rg g).1 = 0) : ∃ ns, TextN.nums g = some ns ∧ g.length ≠ 1 ∧ TextN.wv ns * 2 ^ (8 * g.length) % 4294967296 = 0 ∧ TextN.rg g = (0, TextN.wv ns) := by
  cases hn : TextN.nums g with
  | none => rw [TextN.rg_form hn] at h; cases h
  | some ns =>
    by_cases h1 : g.length = 1
    · rw [TextN.rg_short hn h1] at h; cases h
    · by_cases hz : TextN.wv ns * 2 ^ (8 * g.length) % 4294967296 = 0
      · exact ⟨ns, rfl, h1, hz, TextN.rg_ok hn h1 hz⟩
      · rw [TextN.rg_sum hn h1 hz] at h; cases h

theorem nums_cons {c : UInt8} {r : List UInt8} {ns : List Nat} (h : TextN.nums (c :: r) = some ns) : ∃ n ms, ns = n :: ms ∧ TextN.num c = some n ∧ TextN.nums r = some ms := by
  simp only [TextN.nums] at h
  cases hx : TextN.num c with
  | none => rw [hx] at h; cases h
  | some m =>
    rw [hx] at h
    cases hr : TextN.nums r with
    | none => simp [hr] at h
    | some ms =>
      simp only [hr, Option.some.injEq] at h
      exact ⟨m, ms, h.symm, rfl, rfl⟩

theorem nums_nil {ns : List Nat} (h : TextN.nums [] = some ns) : ns = [] := by
  simp only [TextN.nums, Option.some.injEq] at h
  exact h.symm

theorem eq2 {a b a' b' : Nat} (h1 : a = a') (h2 : b = b') : [TextN.let_ a, TextN.let_ b] = [TextN.let_ a', TextN.let_ b'] := by rw [h1, h2]
theorem eq3 {a b c a' b' c' : Nat} (h1 : a = a') (h2 : b = b') (h3 : c = c') : [TextN.let_ a, TextN.let_ b, TextN.let_ c] = [TextN.let_ a', TextN.let_ b', TextN.let_ c'] := by rw [h1, h2, h3]
theorem eq4 {a b c d a' b' c' d' : Nat} (h1 : a = a') (h2 : b = b') (h3 : c = c') (h4 : d = d') : [TextN.let_ a, TextN.let_ b, TextN.let_ c, TextN.let_ d] = [TextN.let_ a', TextN.let_ b', TextN.let_ c', TextN.let_ d'] := by rw [h1, h2, h3, h4]

theorem codeG_two (x y : Nat) (hx : x < 64) (hy : y < 64) (hz : TextN.wv [x, y] * 2 ^ (8 * 2) % 4294967296 = 0) :
    TextN.codeG ((TextN.three (TextN.wv [x, y])).take 1) = [TextN.let_ x, TextN.let_ y] := by
  simp only [TextN.wv] at hz ⊢
  simp only [TextN.three, TextN.codeG, TextN.four, TextN.gv, List.length_cons, List.length_nil, List.take_succ_cons, List.take_zero, Nat.zero_add, Nat.reduceAdd, UInt8.toNat_ofNat']
  refine eq2 ?_ ?_ <;> omega

theorem codeG_three (x y z : Nat) (hx : x < 64) (hy : y < 64) (hw : z < 64) (hz : TextN.wv [x, y, z] * 2 ^ (8 * 3) % 4294967296 = 0) :
    TextN.codeG ((TextN.three (TextN.wv [x, y, z])).take 2) = [TextN.let_ x, TextN.let_ y, TextN.let_ z] := by
  simp only [TextN.wv] at hz ⊢
  simp only [TextN.three, TextN.codeG, TextN.four, TextN.gv, List.length_cons, List.length_nil, List.take_succ_cons, List.take_zero, Nat.zero_add, Nat.reduceAdd, UInt8.toNat_ofNat']
  refine eq3 ?_ ?_ ?_ <;> omega

theorem codeG_four (x y z u : Nat) (hx : x < 64) (hy : y < 64) (hw : z < 64) (hu : u < 64) :
    TextN.codeG ((TextN.three (TextN.wv [x, y, z, u])).take 3) = [TextN.let_ x, TextN.let_ y, TextN.let_ z, TextN.let_ u] := by
  simp only [TextN.wv]
  simp only [TextN.three, TextN.codeG, TextN.four, TextN.gv, List.length_cons, List.length_nil, List.take_succ_cons, List.take_zero, Nat.zero_add, Nat.reduceAdd, UInt8.toNat_ofNat']
  refine eq4 ?_ ?_ ?_ ?_ <;> omega

theorem codeG_rg (g : List UInt8) (h0 : g ≠ []) (h4 : g.length ≤ 4) (h : (TextN.rg g).1 = 0) :
    TextN.codeG ((TextN.three (TextN.rg g).2).take (g.length - 1)) = g := by
  obtain ⟨ns, hn, hl, hz, hr⟩ := rg_zero h
  rw [hr]
  clear h hr
  rcases g with _ | ⟨a, g⟩
  · exact absurd rfl h0
  rcases g with _ | ⟨b, g⟩
  · exact absurd rfl hl
  obtain ⟨x, ms, rfl, hx, hn⟩ := nums_cons hn
  obtain ⟨y, ms, rfl, hy, hn⟩ := nums_cons hn
  have qx := TextN.num_lt hx
  have qy := TextN.num_lt hy
  rcases g with _ | ⟨c, g⟩
  · cases nums_nil hn
    rw [← TextN.let_num hx, ← TextN.let_num hy]
    exact codeG_two x y qx qy hz
  obtain ⟨z, ms, rfl, hw, hn⟩ := nums_cons hn
  have qz := TextN.num_lt hw
  rcases g with _ | ⟨d, g⟩
  · cases nums_nil hn
    rw [← TextN.let_num hx, ← TextN.let_num hy, ← TextN.let_num hw]
    exact codeG_three x y z qx qy qz hz
  obtain ⟨u, ms, rfl, hv, hn⟩ := nums_cons hn
  have qu := TextN.num_lt hv
  rcases g with _ | ⟨e, g⟩
  · cases nums_nil hn
    rw [← TextN.let_num hx, ← TextN.let_num hy, ← TextN.let_num hw, ← TextN.let_num hv]
    exact codeG_four x y z u qx qy qz qu
  · simp at h4

theorem code_nil {t : List UInt8} (h : TextN.code t = []) : t = [] := by
  have := TextN.code_length t
  rw [h] at this
  simp at this
  cases t with
  | nil => rfl
  | cons a r => simp at this; omega

theorem code_uncodeF (s acc u : List UInt8) (h : TextN.uncodeF acc s = (0, u)) : ∃ t, u = acc ++ t ∧ TextN.code t = s := by
  induction acc, s using TextN.uncodeF.induct with
  | case1 acc => rw [TextN.uncodeF_nil] at h; simp at h; exact ⟨[], by simp [h], rfl⟩
  | case2 acc s hs h0 ih =>
    rw [TextN.uncodeF_go _ _ hs h0] at h
    obtain ⟨t, rfl, ht⟩ := ih h
    have hg := codeG_rg (s.take 4) (by intro he; have := congrArg List.length he; simp at this; exact hs this) (by simp; omega) h0
    have hr := TextN.rg_two _ h0
    have hs0 : 0 < s.length := List.length_pos_iff.2 hs
    have hl : ((TextN.three (TextN.rg (s.take 4)).2).take ((s.take 4).length - 1)).length = (s.take 4).length - 1 := by
      simp [TextN.three]; omega
    refine ⟨(TextN.three (TextN.rg (s.take 4)).2).take ((s.take 4).length - 1) ++ t, by simp, ?_⟩
    generalize (TextN.three (TextN.rg (s.take 4)).2).take ((s.take 4).length - 1) = c at *
    have hne : c ≠ [] := by intro he; subst he; simp at hl; simp at hr; omega
    rw [TextN.code_step _ (by simp [hne])]
    rw [List.length_take] at hl
    by_cases h4 : 4 ≤ s.length
    · rw [List.take_append_of_le_length (by omega), List.take_of_length_le (by omega), List.drop_append_of_le_length (by omega), List.drop_of_length_le (by omega), hg, List.nil_append, ht, List.take_append_drop]
    · rw [List.drop_of_length_le (by omega)] at ht
      cases code_nil ht
      rw [List.append_nil, List.take_of_length_le (by omega), List.drop_of_length_le (by omega), hg, List.take_of_length_le (by omega)]
      simp [TextN.code]
  | case3 acc s hs h0 => rw [TextN.uncodeF_bad _ _ hs h0] at h; simp at h; exact absurd h.1 h0

theorem code_uncode (s : List UInt8) (h : (TextN.uncode s).1 = 0) : TextN.code (TextN.uncode s).2 = s := by
  unfold TextN.uncode at h ⊢
  split at h
  · simp at h
  · rename_i hs
    rw [if_neg hs]
    cases hu : TextN.uncodeF [] s with
    | mk e u =>
      rw [hu] at h
      simp only at h
      subst h
      obtain ⟨t, h1, h2⟩ := code_uncodeF s [] u hu
      simp at h1
      subst h1
      exact h2

theorem uncodeF_empty (acc s : List UInt8) (h : (TextN.uncodeF acc s).1 ≠ 0) : (TextN.uncodeF acc s).2 = [] := by
  induction acc, s using TextN.uncodeF.induct with
  | case1 acc => rw [TextN.uncodeF_nil] at h; simp at h
  | case2 acc s hs h0 ih =>
    rw [TextN.uncodeF_go _ _ hs h0] at h ⊢
    exact ih h
  | case3 acc s hs h0 => rw [TextN.uncodeF_bad _ _ hs h0]

theorem uncode_bad (s : List UInt8) (h : (TextN.uncode s).1 ≠ 0) : (TextN.uncode s).2 = [] := by
  unfold TextN.uncode at h ⊢
  split
  · rfl
  · rename_i hs
    rw [if_neg hs] at h
    exact uncodeF_empty [] s h
end Go.Proofs.Ytnbchnaehmbfcaa.TextP
