/-
  Plain mathematics of length-prefixed vectors: what the functions of package vec compute, and what holds of it; no program is named here. Conditions: in each statement.
-/
namespace Go.Proofs.YtmmmogccjopfeaaDoor.VecM

/-- The number n in w bytes, the greatest first. -/
def be : Nat → Nat → List UInt8
  | 0, _ => []
  | w + 1, n => be w (n / 256) ++ [UInt8.ofNat n]

/-- The number that bytes say, the greatest first. -/
def val (l : List UInt8) : Nat := l.foldl (fun n c => n * 256 + c.toNat) 0

theorem be_length (w n : Nat) : (be w n).length = w := by
  induction w generalizing n with
  | zero => rfl
  | succ w ih => simp [be, ih]

theorem val_snoc (l : List UInt8) (c : UInt8) : val (l ++ [c]) = val l * 256 + c.toNat := by simp [val]

theorem val_be (w n : Nat) : val (be w n) = n % 256 ^ w := by
  induction w generalizing n with
  | zero => simp [be, val, Nat.mod_one]
  | succ w ih =>
    rw [be, val_snoc, ih, UInt8.toNat_ofNat', show (256 : Nat) ^ (w + 1) = 256 * 256 ^ w from by rw [Nat.pow_succ, Nat.mul_comm], Nat.mod_mul]
    omega

theorem val_lt (l : List UInt8) : val l < 256 ^ l.length := by
  have : ∀ (m : List UInt8), val m.reverse < 256 ^ m.length := by
    intro m
    induction m with
    | nil => simp [val]
    | cons x r ih =>
      rw [List.reverse_cons, val_snoc, List.length_cons, Nat.pow_succ]
      have := x.toNat_lt
      omega
  simpa using this l.reverse

theorem be_val (l : List UInt8) : be l.length (val l) = l := by
  have : ∀ (m : List UInt8), be m.length (val m.reverse) = m.reverse := by
    intro m
    induction m with
    | nil => rfl
    | cons x r ih =>
      rw [List.reverse_cons, val_snoc, List.length_cons, be]
      have hx := x.toNat_lt
      have e1 : (val r.reverse * 256 + x.toNat) / 256 = val r.reverse := by omega
      have e2 : UInt8.ofNat (val r.reverse * 256 + x.toNat) = x := by
        apply UInt8.toNat_inj.1
        rw [UInt8.toNat_ofNat']
        omega
      rw [e1, e2, ih]
  simpa using this l.reverse

theorem be_cons (w n : Nat) : be (w + 1) n = UInt8.ofNat (n / 256 ^ w) :: be w n := by
  induction w generalizing n with
  | zero => simp [be]
  | succ w ih =>
    rw [be, ih, be, Nat.div_div_eq_div_mul, Nat.pow_succ, Nat.mul_comm 256]
    simp

def okW (w : Int) : Bool := decide (1 ≤ w ∧ w ≤ 3)

/-- Put: the error, and the vector. -/
def put (w : Int) (l : List UInt8) : Nat × List UInt8 :=
  if okW w = false then (2, []) else if 256 ^ w.toNat ≤ l.length then (4, []) else (0, be w.toNat l.length ++ l)

theorem put_range {w : Int} (l : List UInt8) (h : okW w = false) : put w l = (2, []) := by unfold put; rw [if_pos h]
theorem put_full {w : Int} {l : List UInt8} (h : okW w = true) (hf : 256 ^ w.toNat ≤ l.length) : put w l = (4, []) := by unfold put; rw [if_neg (by simp [h]), if_pos hf]
theorem put_ok {w : Int} {l : List UInt8} (h : okW w = true) (hf : l.length < 256 ^ w.toNat) : put w l = (0, be w.toNat l.length ++ l) := by unfold put; rw [if_neg (by simp [h]), if_neg (by omega)]

theorem okW_cases {w : Int} (h : okW w = true) : w = 1 ∨ w = 2 ∨ w = 3 := by
  have : 1 ≤ w ∧ w ≤ 3 := by simpa [okW] using h
  omega
theorem okW_no {w : Int} (h : okW w = false) : w < 1 ∨ 3 < w := by
  have : ¬ (1 ≤ w ∧ w ≤ 3) := by simpa [okW] using h
  omega

theorem put_cases (w : Int) (l : List UInt8) : (put w l = (2, []) ∧ okW w = false) ∨ (put w l = (4, []) ∧ okW w = true) ∨ (put w l = (0, be w.toNat l.length ++ l) ∧ okW w = true ∧ l.length < 256 ^ w.toNat) := by
  by_cases h : okW w = false
  · exact .inl ⟨put_range l h, h⟩
  · have h : okW w = true := by simpa using h
    by_cases hf : 256 ^ w.toNat ≤ l.length
    · exact .inr (.inl ⟨put_full h hf, h⟩)
    · exact .inr (.inr ⟨put_ok h (by omega), h, by omega⟩)

theorem put_err {w : Int} {l : List UInt8} (h : (put w l).1 ≠ 0) : (put w l).2 = [] := by
  rcases put_cases w l with ⟨e, _⟩ | ⟨e, _⟩ | ⟨e, _⟩ <;> rw [e] at h ⊢
  exact absurd rfl h

theorem pow_le {w : Int} (h : okW w = true) : 256 ^ w.toNat ≤ 16777216 := by
  rcases okW_cases h with rfl | rfl | rfl <;> decide

theorem put_len (w : Int) (l : List UInt8) : (put w l).2.length ≤ 16777218 := by
  rcases put_cases w l with ⟨e, _⟩ | ⟨e, _⟩ | ⟨e, h1, h2⟩ <;> rw [e]
  · simp
  · simp
  · have := pow_le h1
    have : w.toNat ≤ 3 := by rcases okW_cases h1 with rfl | rfl | rfl <;> decide
    simp [be_length]
    omega

theorem put_len2 (w : Int) (l : List UInt8) : (put w l).2.length ≤ l.length + 3 := by
  rcases put_cases w l with ⟨e, _⟩ | ⟨e, _⟩ | ⟨e, h1, h2⟩ <;> rw [e]
  · simp
  · simp
  · have : w.toNat ≤ 3 := by rcases okW_cases h1 with rfl | rfl | rfl <;> decide
    simp [be_length]
    omega

/-- Take: the error, what the first vector holds, and what stands behind it. -/
def take (w : Int) (l : List UInt8) : Nat × List UInt8 × List UInt8 :=
  if okW w = false then (2, [], []) else if l.length < w.toNat then (8, [], []) else
  if l.length < w.toNat + val (l.take w.toNat) then (8, [], []) else (0, (l.drop w.toNat).take (val (l.take w.toNat)), (l.drop w.toNat).drop (val (l.take w.toNat)))

theorem take_range {w : Int} (l : List UInt8) (h : okW w = false) : take w l = (2, [], []) := by unfold take; rw [if_pos h]
theorem take_short {w : Int} {l : List UInt8} (h : okW w = true) (hf : l.length < w.toNat) : take w l = (8, [], []) := by unfold take; rw [if_neg (by simp [h]), if_pos hf]
theorem take_short2 {w : Int} {l : List UInt8} (h : okW w = true) (h1 : w.toNat ≤ l.length) (hf : l.length < w.toNat + val (l.take w.toNat)) : take w l = (8, [], []) := by unfold take; rw [if_neg (by simp [h]), if_neg (by omega), if_pos hf]
theorem take_ok {w : Int} {l : List UInt8} (h : okW w = true) (h1 : w.toNat ≤ l.length) (hf : w.toNat + val (l.take w.toNat) ≤ l.length) :
    take w l = (0, (l.drop w.toNat).take (val (l.take w.toNat)), (l.drop w.toNat).drop (val (l.take w.toNat))) := by unfold take; rw [if_neg (by simp [h]), if_neg (by omega), if_neg (by omega)]

theorem take_cases (w : Int) (l : List UInt8) : (take w l = (2, [], []) ∧ okW w = false) ∨ (take w l = (8, [], []) ∧ okW w = true) ∨
    (∃ n, take w l = (0, (l.drop w.toNat).take n, (l.drop w.toNat).drop n) ∧ okW w = true ∧ n = val (l.take w.toNat) ∧ w.toNat + n ≤ l.length) := by
  by_cases h : okW w = false
  · exact .inl ⟨take_range l h, h⟩
  · have h : okW w = true := by simpa using h
    by_cases h1 : l.length < w.toNat
    · exact .inr (.inl ⟨take_short h h1, h⟩)
    · by_cases hf : l.length < w.toNat + val (l.take w.toNat)
      · exact .inr (.inl ⟨take_short2 h (by omega) hf, h⟩)
      · exact .inr (.inr ⟨_, take_ok h (by omega) (by omega), h, rfl, by omega⟩)

theorem take_err {w : Int} {l : List UInt8} (h : (take w l).1 ≠ 0) : (take w l).2 = ([], []) := by
  rcases take_cases w l with ⟨e, _⟩ | ⟨e, _⟩ | ⟨n, e, _⟩ <;> rw [e] at h ⊢
  exact absurd rfl h

theorem toNat_pos {w : Int} (h : okW w = true) : 1 ≤ w.toNat := by rcases okW_cases h with rfl | rfl | rfl <;> decide

theorem take_lt {w : Int} {l : List UInt8} (h : (take w l).1 = 0) : (take w l).2.2.length < l.length := by
  rcases take_cases w l with ⟨e, _⟩ | ⟨e, _⟩ | ⟨n, e, h1, h2, h3⟩
  · rw [e] at h; cases h
  · rw [e] at h; cases h
  · rw [e]
    have := toNat_pos h1
    simp
    omega

theorem take_lens (w : Int) (l : List UInt8) : (take w l).2.1.length + (take w l).2.2.length ≤ l.length := by
  rcases take_cases w l with ⟨e, _⟩ | ⟨e, _⟩ | ⟨n, e, h1, h2, h3⟩ <;> rw [e]
  · simp
  · simp
  · simp only [List.length_take, List.length_drop]
    omega

/-- All. -/
def all (w : Int) : List (List UInt8) → Nat × List UInt8
  | [] => (0, [])
  | r :: rs => if (put w r).1 ≠ 0 then ((put w r).1, []) else if (all w rs).1 ≠ 0 then ((all w rs).1, []) else (0, (put w r).2 ++ (all w rs).2)

/-- All, with what has been laid so far. -/
def allF (w : Int) (acc : List UInt8) (rs : List (List UInt8)) : Nat × List UInt8 := if (all w rs).1 ≠ 0 then ((all w rs).1, []) else (0, acc ++ (all w rs).2)

theorem all_err {w : Int} {rs : List (List UInt8)} (h : (all w rs).1 ≠ 0) : (all w rs).2 = [] := by
  cases rs with
  | nil => rfl
  | cons r rs =>
    simp only [all] at h ⊢
    split
    · rfl
    · rename_i h1
      rw [if_neg h1] at h
      split
      · rfl
      · rename_i h2; rw [if_neg h2] at h; exact absurd rfl h

theorem allF_nil (w : Int) (acc : List UInt8) : allF w acc [] = (0, acc) := by simp [allF, all]
theorem allF_all (w : Int) (rs : List (List UInt8)) : allF w [] rs = all w rs := by
  unfold allF
  by_cases h : (all w rs).1 ≠ 0
  · rw [if_pos h]; exact Prod.ext rfl (all_err h).symm
  · rw [if_neg h]
    have h' : (all w rs).1 = 0 := by simpa using h
    exact Prod.ext h'.symm (by simp)
theorem allF_bad {w : Int} (acc : List UInt8) {r : List UInt8} (rs : List (List UInt8)) (h : (put w r).1 ≠ 0) : allF w acc (r :: rs) = ((put w r).1, []) := by
  unfold allF
  rw [show all w (r :: rs) = ((put w r).1, []) from by simp only [all]; rw [if_pos h], if_pos h]
theorem allF_go {w : Int} (acc : List UInt8) {r : List UInt8} (rs : List (List UInt8)) (h : (put w r).1 = 0) : allF w acc (r :: rs) = allF w (acc ++ (put w r).2) rs := by
  unfold allF
  by_cases h2 : (all w rs).1 ≠ 0
  · rw [show all w (r :: rs) = ((all w rs).1, []) from by simp only [all]; rw [if_neg (by simp [h]), if_pos h2], if_pos h2, if_pos h2]
  · rw [show all w (r :: rs) = (0, (put w r).2 ++ (all w rs).2) from by simp only [all]; rw [if_neg (by simp [h]), if_neg h2], if_neg (by simp), if_neg h2, List.append_assoc]

/-- How long all rows are together. -/
def total (rs : List (List UInt8)) : Nat := rs.foldr (fun r n => r.length + n) 0
theorem total_cons (r : List UInt8) (rs : List (List UInt8)) : total (r :: rs) = r.length + total rs := rfl
theorem total_append (a b : List (List UInt8)) : total (a ++ b) = total a + total b := by
  induction a with
  | nil => simp [total]
  | cons x r ih => rw [List.cons_append, total_cons, total_cons, ih]; omega

theorem all_len (w : Int) (rs : List (List UInt8)) : (all w rs).2.length ≤ total rs + 3 * rs.length := by
  induction rs with
  | nil => simp [all]
  | cons r rs ih =>
    have := put_len2 w r
    rw [total_cons]
    simp only [all]
    split
    · simp
    · split
      · simp
      · simp only [List.length_append, List.length_cons]; omega

/-- Rows. -/
def rows (w : Int) (l : List UInt8) : Nat × List (List UInt8) :=
  if l = [] then (0, []) else
  if _h : (take w l).1 = 0 then
    if (rows w (take w l).2.2).1 ≠ 0 then ((rows w (take w l).2.2).1, []) else (0, (take w l).2.1 :: (rows w (take w l).2.2).2)
  else ((take w l).1, [])
termination_by l.length
decreasing_by all_goals exact take_lt _h

theorem rows_nil (w : Int) : rows w [] = (0, []) := by rw [rows]; simp
theorem rows_bad {w : Int} {l : List UInt8} (hl : l ≠ []) (h : (take w l).1 ≠ 0) : rows w l = ((take w l).1, []) := by rw [rows, if_neg hl, dif_neg h]
theorem rows_bad2 {w : Int} {l : List UInt8} (hl : l ≠ []) (h : (take w l).1 = 0) (h2 : (rows w (take w l).2.2).1 ≠ 0) : rows w l = ((rows w (take w l).2.2).1, []) := by rw [rows, if_neg hl, dif_pos h, if_pos h2]
theorem rows_go {w : Int} {l : List UInt8} (hl : l ≠ []) (h : (take w l).1 = 0) (h2 : (rows w (take w l).2.2).1 = 0) : rows w l = (0, (take w l).2.1 :: (rows w (take w l).2.2).2) := by rw [rows, if_neg hl, dif_pos h, if_neg (by simp [h2])]

theorem rows_err {w : Int} {l : List UInt8} (h : (rows w l).1 ≠ 0) : (rows w l).2 = [] := by
  by_cases hl : l = []
  · subst hl; rw [rows_nil]
  · by_cases h1 : (take w l).1 = 0
    · by_cases h2 : (rows w (take w l).2.2).1 = 0
      · rw [rows_go hl h1 h2] at h; exact absurd rfl h
      · rw [rows_bad2 hl h1 h2]
    · rw [rows_bad hl h1]

def rowsF (w : Int) (acc : List (List UInt8)) (l : List UInt8) : Nat × List (List UInt8) := if (rows w l).1 ≠ 0 then ((rows w l).1, []) else (0, acc ++ (rows w l).2)
theorem rowsF_nil (w : Int) (acc : List (List UInt8)) : rowsF w acc [] = (0, acc) := by simp [rowsF, rows_nil]
theorem rowsF_rows (w : Int) (l : List UInt8) : rowsF w [] l = rows w l := by
  unfold rowsF
  by_cases h : (rows w l).1 ≠ 0
  · rw [if_pos h]; exact Prod.ext rfl (rows_err h).symm
  · rw [if_neg h]
    have h' : (rows w l).1 = 0 := by simpa using h
    exact Prod.ext h'.symm (by simp)
theorem rowsF_bad {w : Int} (acc : List (List UInt8)) {l : List UInt8} (hl : l ≠ []) (h : (take w l).1 ≠ 0) : rowsF w acc l = ((take w l).1, []) := by
  unfold rowsF; rw [rows_bad hl h, if_pos h]
theorem rowsF_go {w : Int} (acc : List (List UInt8)) {l : List UInt8} (hl : l ≠ []) (h : (take w l).1 = 0) : rowsF w acc l = rowsF w (acc ++ [(take w l).2.1]) (take w l).2.2 := by
  unfold rowsF
  by_cases h2 : (rows w (take w l).2.2).1 = 0
  · rw [rows_go hl h h2, if_neg (by simp), if_neg (by simp [h2])]; simp
  · rw [rows_bad2 hl h h2, if_pos h2, if_pos h2]

theorem rows_len (w : Int) (l : List UInt8) : (rows w l).2.length + total (rows w l).2 ≤ l.length := by
  by_cases hl : l = []
  · subst hl; rw [rows_nil]; simp [total]
  · by_cases h1 : (take w l).1 = 0
    · by_cases h2 : (rows w (take w l).2.2).1 = 0
      · rw [rows_go hl h1 h2]
        have hlt := take_lt h1
        have ih := rows_len w (take w l).2.2
        rcases take_cases w l with ⟨e, _⟩ | ⟨e, _⟩ | ⟨n, e, h1', h2', h3'⟩
        · rw [e] at h1; cases h1
        · rw [e] at h1; cases h1
        · have hp := toNat_pos h1'
          rw [total_cons, List.length_cons]
          have : (take w l).2.1.length + (take w l).2.2.length + w.toNat ≤ l.length := by
            rw [e]; simp only [List.length_take, List.length_drop]; omega
          omega
      · rw [rows_bad2 hl h1 h2]; simp [total]
    · rw [rows_bad hl h1]; simp [total]
termination_by l.length
decreasing_by exact take_lt h1

/-- Nest. -/
def nest (o i : Int) (rs : List (List UInt8)) : Nat × List UInt8 := if (all i rs).1 ≠ 0 then ((all i rs).1, []) else put o (all i rs).2
/-- Unnest. -/
def unnest (o i : Int) (l : List UInt8) : Nat × List (List UInt8) := if (take o l).1 ≠ 0 then ((take o l).1, []) else if (take o l).2.2 ≠ [] then (1, []) else rows i (take o l).2.1

theorem nest_err {o i : Int} {rs : List (List UInt8)} (h : (nest o i rs).1 ≠ 0) : (nest o i rs).2 = [] := by
  unfold nest at h ⊢
  split
  · rfl
  · rename_i h1; rw [if_neg h1] at h; exact put_err h

theorem take_put {w : Int} {b : List UInt8} (rest : List UInt8) (h : (put w b).1 = 0) : take w ((put w b).2 ++ rest) = (0, b, rest) := by
  rcases put_cases w b with ⟨e, _⟩ | ⟨e, _⟩ | ⟨e, h1, h2⟩
  · rw [e] at h; cases h
  · rw [e] at h; cases h
  · rw [e]
    have hw : ((be w.toNat b.length ++ b ++ rest).take w.toNat) = be w.toNat b.length := by
      rw [List.append_assoc]; exact List.take_left' (be_length _ _)
    have hv : val ((be w.toNat b.length ++ b ++ rest).take w.toNat) = b.length := by rw [hw, val_be, Nat.mod_eq_of_lt h2]
    have hd : (be w.toNat b.length ++ b ++ rest).drop w.toNat = b ++ rest := by
      rw [List.append_assoc]; exact List.drop_left' (be_length _ _)
    have hl : (be w.toNat b.length ++ b ++ rest).length = w.toNat + b.length + rest.length := by simp [be_length]; omega
    have := take_ok (l := be w.toNat b.length ++ b ++ rest) h1 (by omega) (by rw [hv]; omega)
    rw [this, hv, hd]
    simp

theorem put_take {w : Int} {b : List UInt8} (h : (take w b).1 = 0) : (put w (take w b).2.1).1 = 0 ∧ (put w (take w b).2.1).2 ++ (take w b).2.2 = b := by
  rcases take_cases w b with ⟨e, _⟩ | ⟨e, _⟩ | ⟨n, e, h1, h2, h3⟩
  · rw [e] at h; cases h
  · rw [e] at h; cases h
  · rw [e]
    have hlen : ((b.drop w.toNat).take n).length = n := by rw [List.length_take, List.length_drop]; omega
    have hlt : (b.take w.toNat).length = w.toNat := by rw [List.length_take]; omega
    have hn : n < 256 ^ w.toNat := by rw [h2]; have := val_lt (b.take w.toNat); rwa [hlt] at this
    have hb : be w.toNat n = b.take w.toNat := by
      have := be_val (b.take w.toNat)
      rw [hlt, ← h2] at this
      exact this
    have hp := put_ok (l := (b.drop w.toNat).take n) h1 (by rw [hlen]; exact hn)
    simp only
    rw [hp]
    refine ⟨rfl, ?_⟩
    simp only
    rw [hlen, hb, List.append_assoc, List.take_append_drop, List.take_append_drop]

theorem rows_all {w : Int} {rs : List (List UInt8)} (h : (all w rs).1 = 0) : rows w (all w rs).2 = (0, rs) := by
  induction rs with
  | nil => simp [all, rows_nil]
  | cons r rs ih =>
    simp only [all] at h ⊢
    split at h
    · rename_i h1; exact absurd h h1
    · rename_i h1
      have h1' : (put w r).1 = 0 := by simpa using h1
      split at h
      · rename_i h2; exact absurd h h2
      · rename_i h2
        have h2' : (all w rs).1 = 0 := by simpa using h2
        rw [if_neg h1, if_neg h2]
        simp only
        have ht := take_put (all w rs).2 h1'
        have hne : (put w r).2 ++ (all w rs).2 ≠ [] := by
          intro e
          rcases put_cases w r with ⟨e1, _⟩ | ⟨e1, _⟩ | ⟨e1, h3, _⟩
          · rw [e1] at h1'; cases h1'
          · rw [e1] at h1'; cases h1'
          · rw [e1] at e
            have := congrArg List.length e
            have hp := toNat_pos h3
            simp [be_length] at this
            omega
        rw [rows_go hne (by rw [ht]) (by rw [ht, ih h2']), ht, ih h2']

theorem all_rows {w : Int} {b : List UInt8} (h : (rows w b).1 = 0) : all w (rows w b).2 = (0, b) := by
  by_cases hl : b = []
  · subst hl; rw [rows_nil]; rfl
  · by_cases h1 : (take w b).1 = 0
    · by_cases h2 : (rows w (take w b).2.2).1 = 0
      · rw [rows_go hl h1 h2]
        have ih := all_rows h2
        obtain ⟨p1, p2⟩ := put_take h1
        simp only [all]
        rw [if_neg (by simp [p1]), ih]
        simp [p2]
      · rw [rows_bad2 hl h1 h2] at h; exact absurd h h2
    · rw [rows_bad hl h1] at h; exact absurd h h1
termination_by b.length
decreasing_by exact take_lt h1

theorem unnest_nest {o i : Int} {rs : List (List UInt8)} (h : (nest o i rs).1 = 0) : unnest o i (nest o i rs).2 = (0, rs) := by
  unfold nest at h ⊢
  split at h
  · rename_i h1; exact absurd h h1
  · rename_i h1
    have h1' : (all i rs).1 = 0 := by simpa using h1
    rw [if_neg h1]
    have ht := take_put [] h
    rw [List.append_nil] at ht
    unfold unnest
    rw [ht]
    simp only
    rw [if_neg (by simp), if_neg (by simp), rows_all h1']

theorem unnest_more {o i : Int} {rs : List (List UInt8)} (more : UInt8) (h : (nest o i rs).1 = 0) : unnest o i ((nest o i rs).2 ++ [more]) = (1, []) := by
  unfold nest at h ⊢
  split at h
  · rename_i h1; exact absurd h h1
  · rename_i h1
    rw [if_neg h1]
    have ht := take_put [more] h
    unfold unnest
    rw [ht]
    simp

theorem take_cut {w : Int} {b : List UInt8} (h : (put w b).1 = 0) (cut : Nat) (hc : cut < (put w b).2.length) : take w ((put w b).2.take cut) = (8, [], []) := by
  rcases put_cases w b with ⟨e, _⟩ | ⟨e, _⟩ | ⟨e, h1, h2⟩
  · rw [e] at h; cases h
  · rw [e] at h; cases h
  · rw [e] at hc ⊢
    simp only at hc ⊢
    rw [List.length_append, be_length] at hc
    have hl : ((be w.toNat b.length ++ b).take cut).length = cut := by rw [List.length_take, List.length_append, be_length]; omega
    by_cases hs : cut < w.toNat
    · exact take_short h1 (by rw [hl]; exact hs)
    · have hw : (((be w.toNat b.length ++ b).take cut).take w.toNat) = be w.toNat b.length := by
        rw [List.take_take, Nat.min_eq_left (by omega)]
        exact List.take_left' (be_length _ _)
      exact take_short2 h1 (by omega) (by rw [hw, val_be, Nat.mod_eq_of_lt h2, hl]; omega)

theorem wider {w : Int} {b : List UInt8} (h0 : 1 ≤ w) (h3 : w ≤ 2) (h : (put w b).1 = 0) : put (w + 1) b = (0, 0 :: (put w b).2) := by
  rcases put_cases w b with ⟨e, _⟩ | ⟨e, _⟩ | ⟨e, h1, h2⟩
  · rw [e] at h; cases h
  · rw [e] at h; cases h
  · rw [e]
    have hw : (w + 1).toNat = w.toNat + 1 := by omega
    have hlt : b.length < 256 ^ (w.toNat + 1) := by rw [Nat.pow_succ]; omega
    rw [put_ok (by simp [okW]; omega) (by rw [hw]; exact hlt), hw, be_cons]
    simp [Nat.div_eq_of_lt h2]
end Go.Proofs.YtmmmogccjopfeaaDoor.VecM
