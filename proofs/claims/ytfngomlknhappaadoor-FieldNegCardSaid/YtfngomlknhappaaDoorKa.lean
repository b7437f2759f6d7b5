/-
  Several texts in one: VecM, TextM, Bits. What each holds stands at its head. Conditions: in each statement.
-/
import Derived.Laws.BitsLemmas

/-
  Plain mathematics of length-prefixed vectors: what the functions of package vec compute, and what holds of it; no program is named here. Conditions: in each statement.
-/
namespace Go.Proofs.YtfngomlknhappaaDoor.VecM

/-- The number n in w bytes, the greatest first. -/
def be : Nat → Nat → List UInt8
  | 0, _ => []
  | w + 1, n => be w (n / 256) ++ [UInt8.ofNat n]

/-- The number that bytes say, the greatest first. -/
def val (l : List UInt8) : Nat := l.foldl (fun n c => n * 256 + c.toNat) 0

theorem be_length (w n : Nat) : (be w n).length = w := by
  induction w generalizing n with
  | zero => rfl
  | succ w ih => simp [be, ih]

theorem val_snoc (l : List UInt8) (c : UInt8) : val (l ++ [c]) = val l * 256 + c.toNat := by simp [val]

theorem val_be (w n : Nat) : val (be w n) = n % 256 ^ w := by
  induction w generalizing n with
  | zero => simp [be, val, Nat.mod_one]
  | succ w ih =>
    rw [be, val_snoc, ih, UInt8.toNat_ofNat', show (256 : Nat) ^ (w + 1) = 256 * 256 ^ w from by rw [Nat.pow_succ, Nat.mul_comm], Nat.mod_mul]
    omega

theorem val_lt (l : List UInt8) : val l < 256 ^ l.length := by
  have : ∀ (m : List UInt8), val m.reverse < 256 ^ m.length := by
    intro m
    induction m with
    | nil => simp [val]
    | cons x r ih =>
      rw [List.reverse_cons, val_snoc, List.length_cons, Nat.pow_succ]
      have := x.toNat_lt
      omega
  simpa using this l.reverse

theorem be_val (l : List UInt8) : be l.length (val l) = l := by
  have : ∀ (m : List UInt8), be m.length (val m.reverse) = m.reverse := by
    intro m
    induction m with
    | nil => rfl
    | cons x r ih =>
      rw [List.reverse_cons, val_snoc, List.length_cons, be]
      have hx := x.toNat_lt
      have e1 : (val r.reverse * 256 + x.toNat) / 256 = val r.reverse := by omega
      have e2 : UInt8.ofNat (val r.reverse * 256 + x.toNat) = x := by
        apply UInt8.toNat_inj.1
        rw [UInt8.toNat_ofNat']
        omega
      rw [e1, e2, ih]
  simpa using this l.reverse

theorem be_cons (w n : Nat) : be (w + 1) n = UInt8.ofNat (n / 256 ^ w) :: be w n := by
  induction w generalizing n with
  | zero => simp [be]
  | succ w ih =>
    rw [be, ih, be, Nat.div_div_eq_div_mul, Nat.pow_succ, Nat.mul_comm 256]
    simp

def okW (w : Int) : Bool := decide (1 ≤ w ∧ w ≤ 3)

/-- Put: the error, and the vector. -/
def put (w : Int) (l : List UInt8) : Nat × List UInt8 :=
  if okW w = false then (2, []) else if 256 ^ w.toNat ≤ l.length then (4, []) else (0, be w.toNat l.length ++ l)

theorem put_range {w : Int} (l : List UInt8) (h : okW w = false) : put w l = (2, []) := by unfold put; rw [if_pos h]
theorem put_full {w : Int} {l : List UInt8} (h : okW w = true) (hf : 256 ^ w.toNat ≤ l.length) : put w l = (4, []) := by unfold put; rw [if_neg (by simp [h]), if_pos hf]
theorem put_ok {w : Int} {l : List UInt8} (h : okW w = true) (hf : l.length < 256 ^ w.toNat) : put w l = (0, be w.toNat l.length ++ l) := by unfold put; rw [if_neg (by simp [h]), if_neg (by omega)]

theorem okW_cases {w : Int} (h : okW w = true) : w = 1 ∨ w = 2 ∨ w = 3 := by
  have : 1 ≤ w ∧ w ≤ 3 := by simpa [okW] using h
  omega
theorem okW_no {w : Int} (h : okW w = false) : w < 1 ∨ 3 < w := by
  have : ¬ (1 ≤ w ∧ w ≤ 3) := by simpa [okW] using h
  omega

theorem put_cases (w : Int) (l : List UInt8) : (put w l = (2, []) ∧ okW w = false) ∨ (put w l = (4, []) ∧ okW w = true) ∨ (put w l = (0, be w.toNat l.length ++ l) ∧ okW w = true ∧ l.length < 256 ^ w.toNat) := by
  by_cases h : okW w = false
  · exact .inl ⟨put_range l h, h⟩
  · have h : okW w = true := by simpa using h
    by_cases hf : 256 ^ w.toNat ≤ l.length
    · exact .inr (.inl ⟨put_full h hf, h⟩)
    · exact .inr (.inr ⟨put_ok h (by omega), h, by omega⟩)

theorem put_err {w : Int} {l : List UInt8} (h : (put w l).1 ≠ 0) : (put w l).2 = [] := by
  rcases put_cases w l with ⟨e, _⟩ | ⟨e, _⟩ | ⟨e, _⟩ <;> rw [e] at h ⊢
  exact absurd rfl h

theorem pow_le {w : Int} (h : okW w = true) : 256 ^ w.toNat ≤ 16777216 := by
  rcases okW_cases h with rfl | rfl | rfl <;> decide

theorem put_len (w : Int) (l : List UInt8) : (put w l).2.length ≤ 16777218 := by
  rcases put_cases w l with ⟨e, _⟩ | ⟨e, _⟩ | ⟨e, h1, h2⟩ <;> rw [e]
  · simp
  · simp
  · have := pow_le h1
    have : w.toNat ≤ 3 := by rcases okW_cases h1 with rfl | rfl | rfl <;> decide
    simp [be_length]
    omega

theorem put_len2 (w : Int) (l : List UInt8) : (put w l).2.length ≤ l.length + 3 := by
  rcases put_cases w l with ⟨e, _⟩ | ⟨e, _⟩ | ⟨e, h1, h2⟩ <;> rw [e]
  · simp
  · simp
  · have : w.toNat ≤ 3 := by rcases okW_cases h1 with rfl | rfl | rfl <;> decide
    simp [be_length]
    omega

/-- Take: the error, what the first vector holds, and what stands behind it. -/
def take (w : Int) (l : List UInt8) : Nat × List UInt8 × List UInt8 :=
  if okW w = false then (2, [], []) else if l.length < w.toNat then (8, [], []) else
  if l.length < w.toNat + val (l.take w.toNat) then (8, [], []) else (0, (l.drop w.toNat).take (val (l.take w.toNat)), (l.drop w.toNat).drop (val (l.take w.toNat)))

theorem take_range {w : Int} (l : List UInt8) (h : okW w = false) : take w l = (2, [], []) := by unfold take; rw [if_pos h]
theorem take_short {w : Int} {l : List UInt8} (h : okW w = true) (hf : l.length < w.toNat) : take w l = (8, [], []) := by unfold take; rw [if_neg (by simp [h]), if_pos hf]
theorem take_short2 {w : Int} {l : List UInt8} (h : okW w = true) (h1 : w.toNat ≤ l.length) (hf : l.length < w.toNat + val (l.take w.toNat)) : take w l = (8, [], []) := by unfold take; rw [if_neg (by simp [h]), if_neg (by omega), if_pos hf]
theorem take_ok {w : Int} {l : List UInt8} (h : okW w = true) (h1 : w.toNat ≤ l.length) (hf : w.toNat + val (l.take w.toNat) ≤ l.length) :
    take w l = (0, (l.drop w.toNat).take (val (l.take w.toNat)), (l.drop w.toNat).drop (val (l.take w.toNat))) := by unfold take; rw [if_neg (by simp [h]), if_neg (by omega), if_neg (by omega)]

theorem take_cases (w : Int) (l : List UInt8) : (take w l = (2, [], []) ∧ okW w = false) ∨ (take w l = (8, [], []) ∧ okW w = true) ∨
    (∃ n, take w l = (0, (l.drop w.toNat).take n, (l.drop w.toNat).drop n) ∧ okW w = true ∧ n = val (l.take w.toNat) ∧ w.toNat + n ≤ l.length) := by
  by_cases h : okW w = false
  · exact .inl ⟨take_range l h, h⟩
  · have h : okW w = true := by simpa using h
    by_cases h1 : l.length < w.toNat
    · exact .inr (.inl ⟨take_short h h1, h⟩)
    · by_cases hf : l.length < w.toNat + val (l.take w.toNat)
      · exact .inr (.inl ⟨take_short2 h (by omega) hf, h⟩)
      · exact .inr (.inr ⟨_, take_ok h (by omega) (by omega), h, rfl, by omega⟩)

theorem take_err {w : Int} {l : List UInt8} (h : (take w l).1 ≠ 0) : (take w l).2 = ([], []) := by
  rcases take_cases w l with ⟨e, _⟩ | ⟨e, _⟩ | ⟨n, e, _⟩ <;> rw [e] at h ⊢
  exact absurd rfl h

theorem toNat_pos {w : Int} (h : okW w = true) : 1 ≤ w.toNat := by rcases okW_cases h with rfl | rfl | rfl <;> decide

theorem take_lt {w : Int} {l : List UInt8} (h : (take w l).1 = 0) : (take w l).2.2.length < l.length := by
  rcases take_cases w l with ⟨e, _⟩ | ⟨e, _⟩ | ⟨n, e, h1, h2, h3⟩
  · rw [e] at h; cases h
  · rw [e] at h; cases h
  · rw [e]
    have := toNat_pos h1
    simp
    omega

theorem take_lens (w : Int) (l : List UInt8) : (take w l).2.1.length + (take w l).2.2.length ≤ l.length := by
  rcases take_cases w l with ⟨e, _⟩ | ⟨e, _⟩ | ⟨n, e, h1, h2, h3⟩ <;> rw [e]
  · simp
  · simp
  · simp only [List.length_take, List.length_drop]
    omega

/-- All. -/
def all (w : Int) : List (List UInt8) → Nat × List UInt8
  | [] => (0, [])
  | r :: rs => if (put w r).1 ≠ 0 then ((put w r).1, []) else if (all w rs).1 ≠ 0 then ((all w rs).1, []) else (0, (put w r).2 ++ (all w rs).2)

/-- All, with what has been laid so far. -/
def allF (w : Int) (acc : List UInt8) (rs : List (List UInt8)) : Nat × List UInt8 := if (all w rs).1 ≠ 0 then ((all w rs).1, []) else (0, acc ++ (all w rs).2)

theorem all_err {w : Int} {rs : List (List UInt8)} (h : (all w rs).1 ≠ 0) : (all w rs).2 = [] := by
  cases rs with
  | nil => rfl
  | cons r rs =>
    simp only [all] at h ⊢
    split
    · rfl
    · rename_i h1
      rw [if_neg h1] at h
      split
      · rfl
      · rename_i h2; rw [if_neg h2] at h; exact absurd rfl h

theorem allF_nil (w : Int) (acc : List UInt8) : allF w acc [] = (0, acc) := by simp [allF, all]
theorem allF_all (w : Int) (rs : List (List UInt8)) : allF w [] rs = all w rs := by
  unfold allF
  by_cases h : (all w rs).1 ≠ 0
  · rw [if_pos h]; exact Prod.ext rfl (all_err h).symm
  · rw [if_neg h]
    have h' : (all w rs).1 = 0 := by simpa using h
    exact Prod.ext h'.symm (by simp)
theorem allF_bad {w : Int} (acc : List UInt8) {r : List UInt8} (rs : List (List UInt8)) (h : (put w r).1 ≠ 0) : allF w acc (r :: rs) = ((put w r).1, []) := by
  unfold allF
  rw [show all w (r :: rs) = ((put w r).1, []) from by simp only [all]; rw [if_pos h], if_pos h]
theorem allF_go {w : Int} (acc : List UInt8) {r : List UInt8} (rs : List (List UInt8)) (h : (put w r).1 = 0) : allF w acc (r :: rs) = allF w (acc ++ (put w r).2) rs := by
  unfold allF
  by_cases h2 : (all w rs).1 ≠ 0
  · rw [show all w (r :: rs) = ((all w rs).1, []) from by simp only [all]; rw [if_neg (by simp [h]), if_pos h2], if_pos h2, if_pos h2]
  · rw [show all w (r :: rs) = (0, (put w r).2 ++ (all w rs).2) from by simp only [all]; rw [if_neg (by simp [h]), if_neg h2], if_neg (by simp), if_neg h2, List.append_assoc]

/-- How long all rows are together. -/
def total (rs : List (List UInt8)) : Nat := rs.foldr (fun r n => r.length + n) 0
theorem total_cons (r : List UInt8) (rs : List (List UInt8)) : total (r :: rs) = r.length + total rs := rfl
theorem total_append (a b : List (List UInt8)) : total (a ++ b) = total a + total b := by
  induction a with
  | nil => simp [total]
  | cons x r ih => rw [List.cons_append, total_cons, total_cons, ih]; omega

theorem all_len (w : Int) (rs : List (List UInt8)) : (all w rs).2.length ≤ total rs + 3 * rs.length := by
  induction rs with
  | nil => simp [all]
  | cons r rs ih =>
    have := put_len2 w r
    rw [total_cons]
    simp only [all]
    split
    · simp
    · split
      · simp
      · simp only [List.length_append, List.length_cons]; omega

/-- Rows. -/
def rows (w : Int) (l : List UInt8) : Nat × List (List UInt8) :=
  if l = [] then (0, []) else
  if _h : (take w l).1 = 0 then
    if (rows w (take w l).2.2).1 ≠ 0 then ((rows w (take w l).2.2).1, []) else (0, (take w l).2.1 :: (rows w (take w l).2.2).2)
  else ((take w l).1, [])
termination_by l.length
decreasing_by all_goals exact take_lt _h

theorem rows_nil (w : Int) : rows w [] = (0, []) := by rw [rows]; simp
theorem rows_bad {w : Int} {l : List UInt8} (hl : l ≠ []) (h : (take w l).1 ≠ 0) : rows w l = ((take w l).1, []) := by rw [rows, if_neg hl, dif_neg h]
theorem rows_bad2 {w : Int} {l : List UInt8} (hl : l ≠ []) (h : (take w l).1 = 0) (h2 : (rows w (take w l).2.2).1 ≠ 0) : rows w l = ((rows w (take w l).2.2).1, []) := by rw [rows, if_neg hl, dif_pos h, if_pos h2]
theorem rows_go {w : Int} {l : List UInt8} (hl : l ≠ []) (h : (take w l).1 = 0) (h2 : (rows w (take w l).2.2).1 = 0) : rows w l = (0, (take w l).2.1 :: (rows w (take w l).2.2).2) := by rw [rows, if_neg hl, dif_pos h, if_neg (by simp [h2])]

theorem rows_err {w : Int} {l : List UInt8} (h : (rows w l).1 ≠ 0) : (rows w l).2 = [] := by
  by_cases hl : l = []
  · subst hl; rw [rows_nil]
  · by_cases h1 : (take w l).1 = 0
    · by_cases h2 : (rows w (take w l).2.2).1 = 0
      · rw [rows_go hl h1 h2] at h; exact absurd rfl h
      · rw [rows_bad2 hl h1 h2]
    · rw [rows_bad hl h1]

def rowsF (w : Int) (acc : List (List UInt8)) (l : List UInt8) : Nat × List (List UInt8) := if (rows w l).1 ≠ 0 then ((rows w l).1, []) else (0, acc ++ (rows w l).2)
theorem rowsF_nil (w : Int) (acc : List (List UInt8)) : rowsF w acc [] = (0, acc) := by simp [rowsF, rows_nil]
theorem rowsF_rows (w : Int) (l : List UInt8) : rowsF w [] l = rows w l := by
  unfold rowsF
  by_cases h : (rows w l).1 ≠ 0
  · rw [if_pos h]; exact Prod.ext rfl (rows_err h).symm
  · rw [if_neg h]
    have h' : (rows w l).1 = 0 := by simpa using h
    exact Prod.ext h'.symm (by simp)
theorem rowsF_bad {w : Int} (acc : List (List UInt8)) {l : List UInt8} (hl : l ≠ []) (h : (take w l).1 ≠ 0) : rowsF w acc l = ((take w l).1, []) := by
  unfold rowsF; rw [rows_bad hl h, if_pos h]
theorem rowsF_go {w : Int} (acc : List (List UInt8)) {l : List UInt8} (hl : l ≠ []) (h : (take w l).1 = 0) : rowsF w acc l = rowsF w (acc ++ [(take w l).2.1]) (take w l).2.2 := by
  unfold rowsF
  by_cases h2 : (rows w (take w l).2.2).1 = 0
  · rw [rows_go hl h h2, if_neg (by simp), if_neg (by simp [h2])]; simp
  · rw [rows_bad2 hl h h2, if_pos h2, if_pos h2]

theorem rows_len (w : Int) (l : List UInt8) : (rows w l).2.length + total (rows w l).2 ≤ l.length := by
  by_cases hl : l = []
  · subst hl; rw [rows_nil]; simp [total]
  · by_cases h1 : (take w l).1 = 0
    · by_cases h2 : (rows w (take w l).2.2).1 = 0
      · rw [rows_go hl h1 h2]
        have hlt := take_lt h1
        have ih := rows_len w (take w l).2.2
        rcases take_cases w l with ⟨e, _⟩ | ⟨e, _⟩ | ⟨n, e, h1', h2', h3'⟩
        · rw [e] at h1; cases h1
        · rw [e] at h1; cases h1
        · have hp := toNat_pos h1'
          rw [total_cons, List.length_cons]
          have : (take w l).2.1.length + (take w l).2.2.length + w.toNat ≤ l.length := by
            rw [e]; simp only [List.length_take, List.length_drop]; omega
          omega
      · rw [rows_bad2 hl h1 h2]; simp [total]
    · rw [rows_bad hl h1]; simp [total]
termination_by l.length
decreasing_by exact take_lt h1

/-- Nest. -/
def nest (o i : Int) (rs : List (List UInt8)) : Nat × List UInt8 := if (all i rs).1 ≠ 0 then ((all i rs).1, []) else put o (all i rs).2
/-- Unnest. -/
def unnest (o i : Int) (l : List UInt8) : Nat × List (List UInt8) := if (take o l).1 ≠ 0 then ((take o l).1, []) else if (take o l).2.2 ≠ [] then (1, []) else rows i (take o l).2.1

theorem nest_err {o i : Int} {rs : List (List UInt8)} (h : (nest o i rs).1 ≠ 0) : (nest o i rs).2 = [] := by
  unfold nest at h ⊢
  split
  · rfl
  · rename_i h1; rw [if_neg h1] at h; exact put_err h

theorem take_put {w : Int} {b : List UInt8} (rest : List UInt8) (h : (put w b).1 = 0) : take w ((put w b).2 ++ rest) = (0, b, rest) := by
  rcases put_cases w b with ⟨e, _⟩ | ⟨e, _⟩ | ⟨e, h1, h2⟩
  · rw [e] at h; cases h
  · rw [e] at h; cases h
  · rw [e]
    have hw : ((be w.toNat b.length ++ b ++ rest).take w.toNat) = be w.toNat b.length := by
      rw [List.append_assoc]; exact List.take_left' (be_length _ _)
    have hv : val ((be w.toNat b.length ++ b ++ rest).take w.toNat) = b.length := by rw [hw, val_be, Nat.mod_eq_of_lt h2]
    have hd : (be w.toNat b.length ++ b ++ rest).drop w.toNat = b ++ rest := by
      rw [List.append_assoc]; exact List.drop_left' (be_length _ _)
    have hl : (be w.toNat b.length ++ b ++ rest).length = w.toNat + b.length + rest.length := by simp [be_length]; omega
    have := take_ok (l := be w.toNat b.length ++ b ++ rest) h1 (by omega) (by rw [hv]; omega)
    rw [this, hv, hd]
    simp

theorem put_take {w : Int} {b : List UInt8} (h : (take w b).1 = 0) : (put w (take w b).2.1).1 = 0 ∧ (put w (take w b).2.1).2 ++ (take w b).2.2 = b := by
  rcases take_cases w b with ⟨e, _⟩ | ⟨e, _⟩ | ⟨n, e, h1, h2, h3⟩
  · rw [e] at h; cases h
  · rw [e] at h; cases h
  · rw [e]
    have hlen : ((b.drop w.toNat).take n).length = n := by rw [List.length_take, List.length_drop]; omega
    have hlt : (b.take w.toNat).length = w.toNat := by rw [List.length_take]; omega
    have hn : n < 256 ^ w.toNat := by rw [h2]; have := val_lt (b.take w.toNat); rwa [hlt] at this
    have hb : be w.toNat n = b.take w.toNat := by
      have := be_val (b.take w.toNat)
      rw [hlt, ← h2] at this
      exact this
    have hp := put_ok (l := (b.drop w.toNat).take n) h1 (by rw [hlen]; exact hn)
    simp only
    rw [hp]
    refine ⟨rfl, ?_⟩
    simp only
    rw [hlen, hb, List.append_assoc, List.take_append_drop, List.take_append_drop]

theorem rows_all {w : Int} {rs : List (List UInt8)} (h : (all w rs).1 = 0) : rows w (all w rs).2 = (0, rs) := by
  induction rs with
  | nil => simp [all, rows_nil]
  | cons r rs ih =>
    simp only [all] at h ⊢
    split at h
    · rename_i h1; exact absurd h h1
    · rename_i h1
      have h1' : (put w r).1 = 0 := by simpa using h1
      split at h
      · rename_i h2; exact absurd h h2
      · rename_i h2
        have h2' : (all w rs).1 = 0 := by simpa using h2
        rw [if_neg h1, if_neg h2]
        simp only
        have ht := take_put (all w rs).2 h1'
        have hne : (put w r).2 ++ (all w rs).2 ≠ [] := by
          intro e
          rcases put_cases w r with ⟨e1, _⟩ | ⟨e1, _⟩ | ⟨e1, h3, _⟩
          · rw [e1] at h1'; cases h1'
          · rw [e1] at h1'; cases h1'
          · rw [e1] at e
            have := congrArg List.length e
            have hp := toNat_pos h3
            simp [be_length] at this
            omega
        rw [rows_go hne (by rw [ht]) (by rw [ht, ih h2']), ht, ih h2']

theorem all_rows {w : Int} {b : List UInt8} (h : (rows w b).1 = 0) : all w (rows w b).2 = (0, b) := by
  by_cases hl : b = []
  · subst hl; rw [rows_nil]; rfl
  · by_cases h1 : (take w b).1 = 0
    · by_cases h2 : (rows w (take w b).2.2).1 = 0
      · rw [rows_go hl h1 h2]
        have ih := all_rows h2
        obtain ⟨p1, p2⟩ := put_take h1
        simp only [all]
        rw [if_neg (by simp [p1]), ih]
        simp [p2]
      · rw [rows_bad2 hl h1 h2] at h; exact absurd h h2
    · rw [rows_bad hl h1] at h; exact absurd h h1
termination_by b.length
decreasing_by exact take_lt h1

theorem unnest_nest {o i : Int} {rs : List (List UInt8)} (h : (nest o i rs).1 = 0) : unnest o i (nest o i rs).2 = (0, rs) := by
  unfold nest at h ⊢
  split at h
  · rename_i h1; exact absurd h h1
  · rename_i h1
    have h1' : (all i rs).1 = 0 := by simpa using h1
    rw [if_neg h1]
    have ht := take_put [] h
    rw [List.append_nil] at ht
    unfold unnest
    rw [ht]
    simp only
    rw [if_neg (by simp), if_neg (by simp), rows_all h1']

theorem unnest_more {o i : Int} {rs : List (List UInt8)} (more : UInt8) (h : (nest o i rs).1 = 0) : unnest o i ((nest o i rs).2 ++ [more]) = (1, []) := by
  unfold nest at h ⊢
  split at h
  · rename_i h1; exact absurd h h1
  · rename_i h1
    rw [if_neg h1]
    have ht := take_put [more] h
    unfold unnest
    rw [ht]
    simp

theorem take_cut {w : Int} {b : List UInt8} (h : (put w b).1 = 0) (cut : Nat) (hc : cut < (put w b).2.length) : take w ((put w b).2.take cut) = (8, [], []) := by
  rcases put_cases w b with ⟨e, _⟩ | ⟨e, _⟩ | ⟨e, h1, h2⟩
  · rw [e] at h; cases h
  · rw [e] at h; cases h
  · rw [e] at hc ⊢
    simp only at hc ⊢
    rw [List.length_append, be_length] at hc
    have hl : ((be w.toNat b.length ++ b).take cut).length = cut := by rw [List.length_take, List.length_append, be_length]; omega
    by_cases hs : cut < w.toNat
    · exact take_short h1 (by rw [hl]; exact hs)
    · have hw : (((be w.toNat b.length ++ b).take cut).take w.toNat) = be w.toNat b.length := by
        rw [List.take_take, Nat.min_eq_left (by omega)]
        exact List.take_left' (be_length _ _)
      exact take_short2 h1 (by omega) (by rw [hw, val_be, Nat.mod_eq_of_lt h2, hl]; omega)

theorem wider {w : Int} {b : List UInt8} (h0 : 1 ≤ w) (h3 : w ≤ 2) (h : (put w b).1 = 0) : put (w + 1) b = (0, 0 :: (put w b).2) := by
  rcases put_cases w b with ⟨e, _⟩ | ⟨e, _⟩ | ⟨e, h1, h2⟩
  · rw [e] at h; cases h
  · rw [e] at h; cases h
  · rw [e]
    have hw : (w + 1).toNat = w.toNat + 1 := by omega
    have hlt : b.length < 256 ^ (w.toNat + 1) := by rw [Nat.pow_succ]; omega
    rw [put_ok (by simp [okW]; omega) (by rw [hw]; exact hlt), hw, be_cons]
    simp [Nat.div_eq_of_lt h2]
end Go.Proofs.YtfngomlknhappaaDoor.VecM

/-
  Plain mathematics of hexadecimal text: no program is named here. Conditions: none.
-/
namespace Go.Proofs.YtfngomlknhappaaDoor.TextM

/-- A half byte's digit. -/
def hexD (n : Nat) : UInt8 := if n < 10 then UInt8.ofNat (48 + n) else UInt8.ofNat (87 + n)

def hex : List UInt8 → List UInt8
  | [] => []
  | c :: r => hexD (c.toNat / 16) :: hexD (c.toNat % 16) :: hex r

theorem hex_append (a b : List UInt8) : hex (a ++ b) = hex a ++ hex b := by
  induction a with
  | nil => rfl
  | cons c r ih => simp [hex, ih]

theorem hex_length (a : List UInt8) : (hex a).length = 2 * a.length := by
  induction a with
  | nil => rfl
  | cons c r ih => simp [hex, ih]; omega

theorem take_snoc (l : List UInt8) (k : Nat) (h : k < l.length) : l.take (k + 1) = l.take k ++ [l[k]] :=
  List.take_succ_eq_append_getElem h

theorem hex_take (l : List UInt8) (k : Nat) (h : k < l.length) :
    hex (l.take (k + 1)) = (hex (l.take k) ++ [hexD (l[k].toNat / 16)]) ++ [hexD (l[k].toNat % 16)] := by
  rw [take_snoc l k h, hex_append]; simp [hex]

theorem digits_at (n : Nat) (h : n < 16) (h' : n < (⟨#[48, 49, 50, 51, 52, 53, 54, 55, 56, 57, 97, 98, 99, 100, 101, 102]⟩ : ByteArray).size) :
    (⟨#[48, 49, 50, 51, 52, 53, 54, 55, 56, 57, 97, 98, 99, 100, 101, 102]⟩ : ByteArray)[n] = hexD n := by
  match n, h with
  | 0, _ => rfl
  | 1, _ => rfl
  | 2, _ => rfl
  | 3, _ => rfl
  | 4, _ => rfl
  | 5, _ => rfl
  | 6, _ => rfl
  | 7, _ => rfl
  | 8, _ => rfl
  | 9, _ => rfl
  | 10, _ => rfl
  | 11, _ => rfl
  | 12, _ => rfl
  | 13, _ => rfl
  | 14, _ => rfl
  | 15, _ => rfl
  | n + 16, h => omega

/-- Two half bytes. -/
def pair (x y : Nat) : UInt8 := UInt8.ofNat (16 * x + y)

/-- A digit's number. -/
def dig (c : UInt8) : Option Nat :=
  if 48 ≤ c.toNat ∧ c.toNat ≤ 57 then some (c.toNat - 48) else if 97 ≤ c.toNat ∧ c.toNat ≤ 102 then some (c.toNat - 87) else none

/-- Reading digits, pair by pair, behind the bytes that have been read: the error's number and the bytes. -/
def unhexF (acc : List UInt8) : List UInt8 → Nat × List UInt8
  | [] => (0, acc)
  | [a] => match dig a with
    | none => (1, [])
    | some _ => (8, [])
  | a :: b :: r => match dig a with
    | none => (1, [])
    | some x => match dig b with
      | none => (1, [])
      | some y => unhexF (acc ++ [pair x y]) r

/-- What Unhex hands back. -/
def unhex (s : List UInt8) : Nat × List UInt8 := if 32768 < s.length then (2, []) else unhexF [] s

theorem dig_lt {c : UInt8} {n : Nat} (h : dig c = some n) : n < 16 := by
  unfold dig at h
  split at h
  · simp at h; omega
  · split at h
    · simp at h; omega
    · cases h

theorem drop_two (s : List UInt8) (k : Nat) (h : k + 1 < s.length) : s.drop k = s[k] :: s[k + 1] :: s.drop (k + 2) := by
  rw [List.drop_eq_getElem_cons (by omega), List.drop_eq_getElem_cons (by omega)]

theorem drop_one (s : List UInt8) (k : Nat) (h : k + 1 = s.length) : s.drop k = [s[k]] := by
  rw [List.drop_eq_getElem_cons (by omega), List.drop_of_length_le (by omega)]

theorem unhexF_two (acc s : List UInt8) (k : Nat) (h : k + 1 < s.length) {x y : Nat} (hx : dig s[k] = some x) (hy : dig s[k + 1] = some y) :
    unhexF acc (s.drop k) = unhexF (acc ++ [pair x y]) (s.drop (k + 2)) := by
  rw [drop_two s k h]; simp [unhexF, hx, hy]

theorem unhexF_bad1 (acc s : List UInt8) (k : Nat) (h : k < s.length) (hx : dig s[k] = none) : unhexF acc (s.drop k) = (1, []) := by
  rcases Nat.lt_or_ge (k + 1) s.length with h1 | h1
  · rw [drop_two s k h1]; simp [unhexF, hx]
  · rw [drop_one s k (by omega)]; simp [unhexF, hx]

theorem unhexF_bad2 (acc s : List UInt8) (k : Nat) (h : k + 1 < s.length) {x : Nat} (hx : dig s[k] = some x) (hy : dig s[k + 1] = none) : unhexF acc (s.drop k) = (1, []) := by
  rw [drop_two s k h]; simp [unhexF, hx, hy]

theorem unhexF_one (acc s : List UInt8) (k : Nat) (h : k + 1 = s.length) {x : Nat} (hx : dig s[k] = some x) : unhexF acc (s.drop k) = (8, []) := by
  rw [drop_one s k h]; simp [unhexF, hx]

end Go.Proofs.YtfngomlknhappaaDoor.TextM

/-
  Bitwise operations of the model on bytes and words as Lean's own; no program is named here. Conditions: none.
-/
namespace Go.Proofs.YtfngomlknhappaaDoor.Bits

theorem nat_u8 (op : BinOp) (f : Nat → Nat → Nat) (hf : ∀ a b, a < 256 → b < 256 → f a b < 256)
    (h : ∀ x y : Int, bits op .u8 x y = IntKind.u8.wrap (f (BitVec.ofInt 8 x).toNat (BitVec.ofInt 8 y).toNat : Nat)) (a b : Nat) (ha : a < 256) (hb : b < 256) :
    bits op .u8 (a : Int) (b : Int) = (f a b : Nat) := by
  have h1 : (BitVec.ofInt 8 (a : Int)).toNat = a := by
    rw [BitVec.ofInt_natCast, BitVec.toNat_ofNat]; exact Nat.mod_eq_of_lt (by omega)
  have h2 : (BitVec.ofInt 8 (b : Int)).toNat = b := by
    rw [BitVec.ofInt_natCast, BitVec.toNat_ofNat]; exact Nat.mod_eq_of_lt (by omega)
  rw [h, h1, h2, IntKind.wrap_u8]
  have := hf a b ha hb
  omega

theorem or_u8 (a b : UInt8) : bits .or .u8 (a.toNat : Int) (b.toNat : Int) = ((a ||| b).toNat : Int) := by
  rw [nat_u8 .or (· ||| ·) (fun a b ha hb => Nat.or_lt_two_pow (n := 8) ha hb) (fun x y => by show IntKind.u8.wrap ((BitVec.ofInt 8 x ||| BitVec.ofInt 8 y).toNat : Int) = _; rw [BitVec.toNat_or]) _ _ a.toNat_lt b.toNat_lt, UInt8.toNat_or]
theorem xor_u8 (a b : UInt8) : bits .xor .u8 (a.toNat : Int) (b.toNat : Int) = ((a ^^^ b).toNat : Int) := by
  rw [nat_u8 .xor (· ^^^ ·) (fun a b ha hb => Nat.xor_lt_two_pow (n := 8) ha hb) (fun x y => by show IntKind.u8.wrap ((BitVec.ofInt 8 x ^^^ BitVec.ofInt 8 y).toNat : Int) = _; rw [BitVec.toNat_xor]) _ _ a.toNat_lt b.toNat_lt, UInt8.toNat_xor]
theorem and_u8 (a b : UInt8) : bits .and .u8 (a.toNat : Int) (b.toNat : Int) = ((a &&& b).toNat : Int) := by
  rw [nat_u8 .and (· &&& ·) (fun a b ha hb => Nat.and_lt_two_pow (n := 8) _ hb) (fun x y => by show IntKind.u8.wrap ((BitVec.ofInt 8 x &&& BitVec.ofInt 8 y).toNat : Int) = _; rw [BitVec.toNat_and]) _ _ a.toNat_lt b.toNat_lt, UInt8.toNat_and]

theorem nat_u32 (op : BinOp) (f : Nat → Nat → Nat) (hf : ∀ a b, a < 4294967296 → b < 4294967296 → f a b < 4294967296)
    (h : ∀ x y : Int, bits op .u32 x y = IntKind.u32.wrap (f (BitVec.ofInt 32 x).toNat (BitVec.ofInt 32 y).toNat : Nat)) (a b : Nat) (ha : a < 4294967296) (hb : b < 4294967296) :
    bits op .u32 (a : Int) (b : Int) = (f a b : Nat) := by
  have h1 : (BitVec.ofInt 32 (a : Int)).toNat = a := by
    rw [BitVec.ofInt_natCast, BitVec.toNat_ofNat]; exact Nat.mod_eq_of_lt (by omega)
  have h2 : (BitVec.ofInt 32 (b : Int)).toNat = b := by
    rw [BitVec.ofInt_natCast, BitVec.toNat_ofNat]; exact Nat.mod_eq_of_lt (by omega)
  rw [h, h1, h2, IntKind.wrap_u32]
  have := hf a b ha hb
  omega

theorem or_u32 (a b : Nat) (ha : a < 4294967296) (hb : b < 4294967296) : bits .or .u32 (a : Int) (b : Int) = ((a ||| b : Nat) : Int) :=
  nat_u32 .or (· ||| ·) (fun a b ha hb => Nat.or_lt_two_pow (n := 32) ha hb) (fun x y => by show IntKind.u32.wrap ((BitVec.ofInt 32 x ||| BitVec.ofInt 32 y).toNat : Int) = _; rw [BitVec.toNat_or]) a b ha hb
theorem xor_u32 (a b : Nat) (ha : a < 4294967296) (hb : b < 4294967296) : bits .xor .u32 (a : Int) (b : Int) = ((a ^^^ b : Nat) : Int) :=
  nat_u32 .xor (· ^^^ ·) (fun a b ha hb => Nat.xor_lt_two_pow (n := 32) ha hb) (fun x y => by show IntKind.u32.wrap ((BitVec.ofInt 32 x ^^^ BitVec.ofInt 32 y).toNat : Int) = _; rw [BitVec.toNat_xor]) a b ha hb
theorem and_u32 (a b : Nat) (ha : a < 4294967296) (hb : b < 4294967296) : bits .and .u32 (a : Int) (b : Int) = ((a &&& b : Nat) : Int) :=
  nat_u32 .and (· &&& ·) (fun a b ha hb => Nat.and_lt_two_pow (n := 32) _ hb) (fun x y => by show IntKind.u32.wrap ((BitVec.ofInt 32 x &&& BitVec.ofInt 32 y).toNat : Int) = _; rw [BitVec.toNat_and]) a b ha hb

/-- Bits put above lower ones. -/
theorem join_u32 (i x y : Nat) (hi : i ≤ 31) (hx : x % 2 ^ i = 0) (hx1 : x < 2147483648) (hy : y < 2 ^ i) : bits .or .u32 (x : Int) (y : Int) = ((x + y : Nat) : Int) := by
  have hp : 2 ^ i ≤ 2 ^ 31 := Nat.pow_le_pow_right (by decide) hi
  have hw : ∀ n : Int, 0 ≤ n → n < 2 ^ 31 → IntKind.u32.wrap n = n := fun n h0 h1 => by rw [IntKind.wrap_u32]; omega
  have h := bits_join .u32 31 (by decide) hw i (x : Int) (y : Int) (by omega) (by exact_mod_cast hx) (by omega) (by omega) (by exact_mod_cast hy) (by omega)
  rw [h]; omega

theorem and63 (n : Nat) (h : n < 4294967296) : bits .and .u32 (n : Int) 63 = (n : Int) % 64 := by
  have := and_u32 n 63 h (by decide)
  rw [show (63 : Nat) = 2 ^ 6 - 1 from rfl, Nat.and_two_pow_sub_one_eq_mod] at this
  rw [show (63 : Int) = ((2 ^ 6 - 1 : Nat) : Int) from rfl, this]
  omega

/-- 'and' of two numbers that are not negative, at int. -/
theorem and_i64 (a b : Nat) (ha : a < 9223372036854775808) (hb : b < 9223372036854775808) : bits .and .i64 (a : Int) (b : Int) = ((a &&& b : Nat) : Int) := by
  have h1 : (BitVec.ofInt 64 (a : Int)).toNat = a := by
    rw [BitVec.ofInt_natCast, BitVec.toNat_ofNat]; exact Nat.mod_eq_of_lt (by omega)
  have h2 : (BitVec.ofInt 64 (b : Int)).toNat = b := by
    rw [BitVec.ofInt_natCast, BitVec.toNat_ofNat]; exact Nat.mod_eq_of_lt (by omega)
  show IntKind.i64.wrap ((BitVec.ofInt 64 (a : Int) &&& BitVec.ofInt 64 (b : Int)).toNat : Int) = _
  have h3 : a &&& b ≤ a := Nat.and_le_left
  rw [BitVec.toNat_and, h1, h2, IntKind.wrap_i64]
  omega
theorem and1_i64 (n : Nat) (h : n < 9223372036854775808) : bits .and .i64 (n : Int) 1 = ((n % 2 : Nat) : Int) := by
  have := and_i64 n 1 h (by decide)
  rw [Nat.and_one_is_mod] at this
  exact this

/-- Two bytes are one where their exclusive or is nought. -/
theorem xor_eq_zero (a b : UInt8) : a ^^^ b = 0 ↔ a = b := UInt8.xor_eq_zero_iff
theorem or_eq_zero (a b : UInt8) : a ||| b = 0 ↔ a = 0 ∧ b = 0 := UInt8.or_eq_zero_iff

end Go.Proofs.YtfngomlknhappaaDoor.Bits
