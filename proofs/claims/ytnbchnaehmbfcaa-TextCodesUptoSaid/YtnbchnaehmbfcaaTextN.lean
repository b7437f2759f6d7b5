/-
  Plain mathematics of base64url text: no program is named here. Conditions: none.
-/
namespace Go.Proofs.Ytnbchnaehmbfcaa.TextN

def tbl : List UInt8 := [65, 66, 67, 68, 69, 70, 71, 72, 73, 74, 75, 76, 77, 78, 79, 80, 81, 82, 83, 84, 85, 86, 87, 88, 89, 90, 97, 98, 99, 100, 101, 102, 103, 104, 105, 106, 107, 108, 109, 110, 111, 112, 113, 114, 115, 116, 117, 118, 119, 120, 121, 122, 48, 49, 50, 51, 52, 53, 54, 55, 56, 57, 45, 95]

theorem take_snoc (l : List UInt8) (k : Nat) (h : k < l.length) : l.take (k + 1) = l.take k ++ [l[k]] :=
  List.take_succ_eq_append_getElem h

/-- The letter of a number below 64. -/
def let_ (n : Nat) : UInt8 := tbl.getD n 0

/-- A letter's number. -/
def num (c : UInt8) : Option Nat :=
  if 65 ≤ c.toNat ∧ c.toNat ≤ 90 then some (c.toNat - 65)
  else if 97 ≤ c.toNat ∧ c.toNat ≤ 122 then some (c.toNat - 71)
  else if 48 ≤ c.toNat ∧ c.toNat ≤ 57 then some (c.toNat + 4)
  else if c.toNat = 45 then some 62
  else if c.toNat = 95 then some 63
  else none

theorem num_let_fin : ∀ n : Fin 64, num (let_ n.val) = some n.val := by decide +kernel
theorem num_let (n : Nat) (h : n < 64) : num (let_ n) = some n := num_let_fin ⟨n, h⟩

theorem num_lt {c : UInt8} {n : Nat} (h : num c = some n) : n < 64 := by
  unfold num at h
  repeat' split at h
  all_goals first | (simp at h; omega) | cases h

theorem let_num_fin : ∀ c : Fin 256, ∀ n, num (UInt8.ofNat c.val) = some n → let_ n = UInt8.ofNat c.val := by
  intro c n h
  have : ∀ c : Fin 256, (match num (UInt8.ofNat c.val) with | some n => let_ n == UInt8.ofNat c.val | none => true) = true := by decide +kernel
  have := this c
  rw [h] at this
  exact beq_iff_eq.1 this
theorem let_num {c : UInt8} {n : Nat} (h : num c = some n) : let_ n = c := by
  have := let_num_fin ⟨c.toNat, c.toNat_lt⟩ n
  simp only [UInt8.ofNat_toNat] at this
  exact this h

/-- The 24 bits of one to three bytes. -/
def gv : List UInt8 → Nat
  | [] => 0
  | [a] => a.toNat * 65536
  | [a, b] => a.toNat * 65536 + b.toNat * 256
  | a :: b :: c :: _ => a.toNat * 65536 + b.toNat * 256 + c.toNat

/-- The letters of 24 bits. -/
def four (v : Nat) : List UInt8 := [let_ (v / 262144 % 64), let_ (v / 4096 % 64), let_ (v / 64 % 64), let_ (v % 64)]

/-- A group of one to three bytes. -/
def codeG (g : List UInt8) : List UInt8 := (four (gv g)).take (g.length + 1)

def code : List UInt8 → List UInt8
  | a :: b :: c :: r => codeG [a, b, c] ++ code r
  | [a, b] => codeG [a, b]
  | [a] => codeG [a]
  | [] => []

theorem code_step (l : List UInt8) (h : l ≠ []) : code l = codeG (l.take 3) ++ code (l.drop 3) := by
  match l, h with
  | [a], _ => simp [code]
  | [a, b], _ => simp [code]
  | a :: b :: c :: r, _ => simp [code]

theorem codeG_length (g : List UInt8) (h : g.length ≤ 3) : (codeG g).length = g.length + 1 := by
  simp [codeG, four]; omega

theorem code_length (l : List UInt8) : (code l).length = (4 * l.length + 2) / 3 := by
  induction l using code.induct with
  | case1 a b c r ih => simp [code, codeG_length, ih]; omega
  | case2 a b => simp [code, codeG_length]
  | case3 a => simp [code, codeG_length]
  | case4 => rfl

/-- The numbers of letters, if all are letters. -/
def nums : List UInt8 → Option (List Nat)
  | [] => some []
  | c :: r => match num c with
    | none => none
    | some n => match nums r with
      | none => none
      | some ns => some (n :: ns)

theorem nums_snoc (g : List UInt8) (c : UInt8) (ns : List Nat) (n : Nat) (h : nums g = some ns) (hc : num c = some n) : nums (g ++ [c]) = some (ns ++ [n]) := by
  induction g generalizing ns with
  | nil =>
    simp only [nums, Option.some.injEq] at h
    subst h
    simp [nums, hc]
  | cons x r ih =>
    simp only [nums, List.cons_append] at h ⊢
    cases hx : num x with
    | none => rw [hx] at h; cases h
    | some m =>
      rw [hx] at h
      cases hr : nums r with
      | none => simp [hr] at h
      | some ms =>
        simp only [hr, Option.some.injEq] at h
        subst h
        simp [ih ms hr]

theorem nums_bad (g : List UInt8) (k : Nat) (h : k < g.length) (hc : num g[k] = none) : nums g = none := by
  induction g generalizing k with
  | nil => simp at h
  | cons x r ih =>
    simp only [nums]
    cases k with
    | zero => simp at hc; simp [hc]
    | succ k =>
      cases hx : num x with
      | none => rfl
      | some m => simp [ih k (by simpa using h) (by simpa using hc)]

theorem nums_length {g : List UInt8} {ns : List Nat} (h : nums g = some ns) : ns.length = g.length := by
  induction g generalizing ns with
  | nil => simp only [nums, Option.some.injEq] at h; subst h; rfl
  | cons x r ih =>
    simp only [nums] at h
    cases hx : num x with
    | none => rw [hx] at h; cases h
    | some m =>
      rw [hx] at h
      cases hr : nums r with
      | none => simp [hr] at h
      | some ms =>
        simp only [hr, Option.some.injEq] at h
        subst h
        simp [ih hr]

theorem nums_lt {g : List UInt8} {ns : List Nat} (h : nums g = some ns) : ∀ n ∈ ns, n < 64 := by
  induction g generalizing ns with
  | nil => simp only [nums, Option.some.injEq] at h; subst h; simp
  | cons x r ih =>
    simp only [nums] at h
    cases hx : num x with
    | none => rw [hx] at h; cases h
    | some m =>
      rw [hx] at h
      cases hr : nums r with
      | none => simp [hr] at h
      | some ms =>
        simp only [hr, Option.some.injEq] at h
        subst h
        intro n hn
        simp only [List.mem_cons] at hn
        rcases hn with rfl | hn
        · exact num_lt hx
        · exact ih hr n hn

/-- The 24 bits of one to four letters' numbers. -/
def wv : List Nat → Nat
  | [] => 0
  | [a] => a * 262144
  | [a, b] => a * 262144 + b * 4096
  | [a, b, c] => a * 262144 + b * 4096 + c * 64
  | a :: b :: c :: d :: _ => a * 262144 + b * 4096 + c * 64 + d

theorem wv_snoc (ns : List Nat) (n : Nat) (h : ns.length < 4) : wv (ns ++ [n]) = wv ns + n * 2 ^ (18 - 6 * ns.length) := by
  match ns, h with
  | [], _ => simp [wv]
  | [a], _ => simp [wv]
  | [a, b], _ => simp [wv]
  | [a, b, c], _ => simp [wv]

theorem wv_low (ns : List Nat) (h : ns.length < 4) (hn : ∀ n ∈ ns, n < 64) : wv ns % 2 ^ (24 - 6 * ns.length) = 0 ∧ wv ns < 16777216 := by
  match ns, h with
  | [], _ => simp [wv]
  | [a], _ => have := hn a (by simp); simp [wv]; omega
  | [a, b], _ => have := hn a (by simp); have := hn b (by simp); simp [wv]; omega
  | [a, b, c], _ => have := hn a (by simp); have := hn b (by simp); have := hn c (by simp); simp [wv]; omega

theorem wv_lt (ns : List Nat) (hn : ∀ n ∈ ns, n < 64) : wv ns < 16777216 := by
  match ns with
  | [] => simp [wv]
  | [a] => have := hn a (by simp); simp [wv]; omega
  | [a, b] => have := hn a (by simp); have := hn b (by simp); simp [wv]; omega
  | [a, b, c] => have := hn a (by simp); have := hn b (by simp); have := hn c (by simp); simp [wv]; omega
  | a :: b :: c :: d :: _ => have := hn a (by simp); have := hn b (by simp); have := hn c (by simp); have := hn d (by simp); simp [wv]; omega

theorem ext (l : List UInt8) (a b : Nat) : (⟨l.toArray⟩ : ByteArray).extract a b = ⟨((l.drop a).take (b - a)).toArray⟩ := by
  have h : ((⟨l.toArray⟩ : ByteArray).extract a b).data = ((l.drop a).take (b - a)).toArray := by
    rw [ByteArray.data_extract]
    simp [List.extract_eq_take_drop]
  cases hx : (⟨l.toArray⟩ : ByteArray).extract a b with
  | mk d => rw [hx] at h; simp only at h; rw [h]

theorem ext_tail (l : List UInt8) (n : Nat) : (⟨l.toArray⟩ : ByteArray).extract n l.length = ⟨(l.drop n).toArray⟩ := by
  rw [ext, List.take_of_length_le (by rw [List.length_drop]; omega)]

/-- Reading one group: the error's number and the bits. -/
def rg (g : List UInt8) : Nat × Nat :=
  match nums g with
  | none => (1, 0)
  | some ns => if g.length = 1 then (8, 0) else if wv ns * 2 ^ (8 * g.length) % 4294967296 ≠ 0 then (7, 0) else (0, wv ns)

theorem rg_form {g : List UInt8} (h : nums g = none) : rg g = (1, 0) := by unfold rg; rw [h]
theorem rg_short {g : List UInt8} {ns : List Nat} (h : nums g = some ns) (h1 : g.length = 1) : rg g = (8, 0) := by
  unfold rg; rw [h]; exact if_pos h1
theorem rg_sum {g : List UInt8} {ns : List Nat} (h : nums g = some ns) (h1 : g.length ≠ 1) (hz : wv ns * 2 ^ (8 * g.length) % 4294967296 ≠ 0) : rg g = (7, 0) := by
  unfold rg; rw [h]; dsimp only; rw [if_neg h1, if_pos hz]
theorem rg_ok {g : List UInt8} {ns : List Nat} (h : nums g = some ns) (h1 : g.length ≠ 1) (hz : wv ns * 2 ^ (8 * g.length) % 4294967296 = 0) : rg g = (0, wv ns) := by
  unfold rg; rw [h]; dsimp only; rw [if_neg h1, if_neg (fun h => h hz)]

theorem rg_all (g : List UInt8) : (rg g).2 < 16777216 ∧ (rg g).1 ≤ 8 ∧ ((rg g).1 = 0 → g.length ≠ 1) := by
  cases h : nums g with
  | none => rw [rg_form h]; exact ⟨by omega, by omega, fun h => absurd h (by omega)⟩
  | some ns =>
    by_cases h1 : g.length = 1
    · rw [rg_short h h1]; exact ⟨by omega, by omega, fun h => absurd h (by omega)⟩
    · by_cases hz : wv ns * 2 ^ (8 * g.length) % 4294967296 = 0
      · rw [rg_ok h h1 hz]; exact ⟨wv_lt ns (nums_lt h), by omega, fun _ => h1⟩
      · rw [rg_sum h h1 hz]; exact ⟨by omega, by omega, fun h => absurd h (by omega)⟩
theorem rg_lt (g : List UInt8) : (rg g).2 < 16777216 := (rg_all g).1
theorem rg_err (g : List UInt8) : (rg g).1 ≤ 8 := (rg_all g).2.1
theorem rg_two (g : List UInt8) (h : (rg g).1 = 0) : g.length ≠ 1 := (rg_all g).2.2 h

/-- The first bytes of 24 bits. -/
def three (v : Nat) : List UInt8 := [UInt8.ofNat (v / 65536), UInt8.ofNat (v / 256), UInt8.ofNat v]

def uncodeF (acc : List UInt8) (s : List UInt8) : Nat × List UInt8 :=
  if _h : s = [] then (0, acc)
  else if (rg (s.take 4)).1 = 0 then uncodeF (acc ++ (three (rg (s.take 4)).2).take ((s.take 4).length - 1)) (s.drop 4) else ((rg (s.take 4)).1, [])
termination_by s.length
decreasing_by
  have : 0 < s.length := List.length_pos_iff.2 (by assumption)
  simp; omega

/-- What Uncode hands back. -/
def uncode (s : List UInt8) : Nat × List UInt8 := if 32768 < s.length then (2, []) else uncodeF [] s

theorem uncodeF_nil (acc : List UInt8) : uncodeF acc [] = (0, acc) := by rw [uncodeF]; simp
theorem uncodeF_go (acc s : List UInt8) (h : s ≠ []) (h0 : (rg (s.take 4)).1 = 0) : uncodeF acc s = uncodeF (acc ++ (three (rg (s.take 4)).2).take ((s.take 4).length - 1)) (s.drop 4) := by
  rw [uncodeF, dif_neg h, if_pos h0]
theorem uncodeF_bad (acc s : List UInt8) (h : s ≠ []) (h0 : (rg (s.take 4)).1 ≠ 0) : uncodeF acc s = ((rg (s.take 4)).1, []) := by
  rw [uncodeF, dif_neg h, if_neg h0]

theorem letters_fin : ∀ n : Fin 64, (⟨#[65, 66, 67, 68, 69, 70, 71, 72, 73, 74, 75, 76, 77, 78, 79, 80, 81, 82, 83, 84, 85, 86, 87, 88, 89, 90, 97, 98, 99, 100, 101, 102, 103, 104, 105, 106, 107, 108, 109, 110, 111, 112, 113, 114, 115, 116, 117, 118, 119, 120, 121, 122, 48, 49, 50, 51, 52, 53, 54, 55, 56, 57, 45, 95]⟩ : ByteArray)[n.val]'(n.isLt) = let_ n.val := by decide +kernel
theorem letters_at (n : Nat) (h : n < 64) (h' : n < (⟨#[65, 66, 67, 68, 69, 70, 71, 72, 73, 74, 75, 76, 77, 78, 79, 80, 81, 82, 83, 84, 85, 86, 87, 88, 89, 90, 97, 98, 99, 100, 101, 102, 103, 104, 105, 106, 107, 108, 109, 110, 111, 112, 113, 114, 115, 116, 117, 118, 119, 120, 121, 122, 48, 49, 50, 51, 52, 53, 54, 55, 56, 57, 45, 95]⟩ : ByteArray).size) :
    (⟨#[65, 66, 67, 68, 69, 70, 71, 72, 73, 74, 75, 76, 77, 78, 79, 80, 81, 82, 83, 84, 85, 86, 87, 88, 89, 90, 97, 98, 99, 100, 101, 102, 103, 104, 105, 106, 107, 108, 109, 110, 111, 112, 113, 114, 115, 116, 117, 118, 119, 120, 121, 122, 48, 49, 50, 51, 52, 53, 54, 55, 56, 57, 45, 95]⟩ : ByteArray)[n] = let_ n := letters_fin ⟨n, h⟩

theorem gv_snoc (g : List UInt8) (k : Nat) (h : k < g.length) (hk : k < 3) : gv (g.take (k + 1)) = gv (g.take k) + g[k].toNat * 2 ^ (16 - 8 * k) := by
  match g, k, h, hk with
  | a :: _, 0, _, _ => simp [gv]
  | a :: b :: _, 1, _, _ => simp [gv]
  | a :: b :: c :: _, 2, _, _ => simp [gv]

theorem gv_low (g : List UInt8) (k : Nat) (h : k ≤ g.length) (hk : k < 3) : gv (g.take k) % 2 ^ (24 - 8 * k) = 0 ∧ gv (g.take k) < 16777216 := by
  match g, k, h, hk with
  | _, 0, _, _ => simp [gv]
  | a :: _, 1, _, _ => have := a.toNat_lt; simp [gv]; omega
  | a :: b :: _, 2, _, _ => have := a.toNat_lt; have := b.toNat_lt; simp [gv]; omega

theorem gv_lt (g : List UInt8) : gv g < 16777216 := by
  match g with
  | [] => simp [gv]
  | [a] => have := a.toNat_lt; simp [gv]; omega
  | [a, b] => have := a.toNat_lt; have := b.toNat_lt; simp [gv]; omega
  | a :: b :: c :: _ => have := a.toNat_lt; have := b.toNat_lt; have := c.toNat_lt; simp [gv]; omega

end Go.Proofs.Ytnbchnaehmbfcaa.TextN
