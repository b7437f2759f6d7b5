/-
  Plain mathematics of base64url text written bit by bit: it is the text that is written group by group. No program is named here. Conditions: none.
-/
import Derived.Test.YtnbchnaehmbfcaaTextN
namespace Go.Proofs.Ytnbchnaehmbfcaa.TextR

/-- Bit number j of a byte, from the top. -/
def bit (x : Nat) (j : Nat) : Nat := x / 2 ^ (7 - j) % 2
def bits8 (x : UInt8) : List Nat := [bit x.toNat 0, bit x.toNat 1, bit x.toNat 2, bit x.toNat 3, bit x.toNat 4, bit x.toNat 5, bit x.toNat 6, bit x.toNat 7]
def bitsOf : List UInt8 → List Nat
  | [] => []
  | x :: r => bits8 x ++ bitsOf r
/-- How many noughts are behind so many bits. -/
def short (n : Nat) : Nat := (6 - n % 6) % 6
def pad (l : List Nat) : List Nat := l ++ List.replicate (short l.length) 0
def val (l : List Nat) : Nat := l.foldl (fun n x => 2 * n + x) 0
def grp : List Nat → List UInt8
  | a :: b :: c :: d :: e :: f :: r => TextN.let_ (val [a, b, c, d, e, f]) :: grp r
  | _ => []

theorem bitsOf_append (a b : List UInt8) : bitsOf (a ++ b) = bitsOf a ++ bitsOf b := by
  induction a with
  | nil => rfl
  | cons x r ih => simp [bitsOf, ih]

theorem bitsOf_length (l : List UInt8) : (bitsOf l).length = 8 * l.length := by
  induction l with
  | nil => rfl
  | cons x r ih => simp [bitsOf, bits8, ih]; omega

theorem bitsOf_take (l : List UInt8) (k : Nat) (h : k < l.length) : bitsOf (l.take (k + 1)) = bitsOf (l.take k) ++ bits8 l[k] := by
  rw [TextN.take_snoc l k h, bitsOf_append]
  simp [bitsOf]

theorem bits8_take (x : UInt8) (j : Nat) (h : j < 8) : (bits8 x).take (j + 1) = (bits8 x).take j ++ [bit x.toNat j] := by
  match j, h with
  | 0, _ => rfl
  | 1, _ => rfl
  | 2, _ => rfl
  | 3, _ => rfl
  | 4, _ => rfl
  | 5, _ => rfl
  | 6, _ => rfl
  | 7, _ => rfl

theorem bit_lt (x j : Nat) : bit x j < 2 := by unfold bit; omega

theorem bitsOf_lt (l : List UInt8) : ∀ n ∈ bitsOf l, n < 2 := by
  induction l with
  | nil => simp [bitsOf]
  | cons x r ih =>
    intro n hn
    simp only [bitsOf, List.mem_append] at hn
    rcases hn with hn | hn
    · simp only [bits8, List.mem_cons, List.not_mem_nil, or_false] at hn
      rcases hn with h | h | h | h | h | h | h | h <;> rw [h] <;> exact bit_lt _ _
    · exact ih n hn

theorem pad_lt (l : List Nat) (h : ∀ n ∈ l, n < 2) : ∀ n ∈ pad l, n < 2 := by
  intro n hn
  simp only [pad, List.mem_append, List.mem_replicate] at hn
  rcases hn with hn | ⟨_, rfl⟩
  · exact h n hn
  · omega

theorem val_snoc (l : List Nat) (x : Nat) : val (l ++ [x]) = 2 * val l + x := by simp [val, List.foldl_append]

theorem fold_lt (l : List Nat) (h : ∀ n ∈ l, n < 2) : ∀ acc, l.foldl (fun n x => 2 * n + x) acc + 1 ≤ (acc + 1) * 2 ^ l.length := by
  induction l with
  | nil => intro acc; simp
  | cons x r ih =>
    intro acc
    have h1 := ih (fun n hn => h n (by simp [hn])) (2 * acc + x)
    have h2 := h x (by simp)
    rw [List.foldl_cons, List.length_cons, Nat.pow_succ]
    have h3 : (2 * acc + x + 1) * 2 ^ r.length ≤ (2 * (acc + 1)) * 2 ^ r.length := Nat.mul_le_mul_right _ (by omega)
    have h4 : (2 * (acc + 1)) * 2 ^ r.length = (acc + 1) * (2 ^ r.length * 2) := by rw [Nat.mul_comm 2 (acc + 1), Nat.mul_assoc, Nat.mul_comm 2]
    omega

theorem val_lt (l : List Nat) (h : ∀ n ∈ l, n < 2) : val l < 2 ^ l.length := by
  have := fold_lt l h 0
  simp at this
  exact this

theorem grp_step (l : List Nat) (h : 6 ≤ l.length) : grp l = TextN.let_ (val (l.take 6)) :: grp (l.drop 6) := by
  match l, h with
  | a :: b :: c :: d :: e :: f :: r, _ => simp [grp]

theorem grp_short (l : List Nat) (h : l.length < 6) : grp l = [] := by
  match l, h with
  | [], _ => rfl
  | [a], _ => rfl
  | [a, b], _ => rfl
  | [a, b, c], _ => rfl
  | [a, b, c, d], _ => rfl
  | [a, b, c, d, e], _ => rfl

theorem grp_append (a b : List Nat) (h : a.length % 6 = 0) : grp (a ++ b) = grp a ++ grp b := by
  induction a using grp.induct with
  | case1 p q r s t u v ih =>
    have := ih (by simp at h; omega)
    simp [grp, this]
  | case2 l hl =>
    match l, hl, h with
    | [], _, _ => simp [grp]
    | [a], _, h => simp at h
    | [a, b], _, h => simp at h
    | [a, b, c], _, h => simp at h
    | [a, b, c, d], _, h => simp at h
    | [a, b, c, d, e], _, h => simp at h
    | a :: b :: c :: d :: e :: f :: r, hl, _ => exact absurd rfl (hl a b c d e f r)

theorem pad_append (a b : List Nat) (h : a.length % 6 = 0) : pad (a ++ b) = a ++ pad b := by
  have : short (a ++ b).length = short b.length := by unfold short; rw [List.length_append]; omega
  unfold pad
  rw [this, List.append_assoc]

theorem val6 (a b c d e f : Nat) : val [a, b, c, d, e, f] = 32 * a + 16 * b + 8 * c + 4 * d + 2 * e + f := by
  simp [val]; omega

theorem l2 {a b a' b' : Nat} (h1 : a = a') (h2 : b = b') : [TextN.let_ a, TextN.let_ b] = [TextN.let_ a', TextN.let_ b'] := by rw [h1, h2]
theorem l3 {a b c a' b' c' : Nat} (h1 : a = a') (h2 : b = b') (h3 : c = c') : [TextN.let_ a, TextN.let_ b, TextN.let_ c] = [TextN.let_ a', TextN.let_ b', TextN.let_ c'] := by rw [h1, h2, h3]
theorem l4 {a b c d a' b' c' d' : Nat} (h1 : a = a') (h2 : b = b') (h3 : c = c') (h4 : d = d') : [TextN.let_ a, TextN.let_ b, TextN.let_ c, TextN.let_ d] = [TextN.let_ a', TextN.let_ b', TextN.let_ c', TextN.let_ d'] := by rw [h1, h2, h3, h4]

theorem grp_three (a b c : UInt8) : grp (bits8 a ++ bits8 b ++ bits8 c) = TextN.codeG [a, b, c] := by
  have := a.toNat_lt
  have := b.toNat_lt
  have := c.toNat_lt
  simp only [bits8, List.cons_append, List.nil_append, grp, val6, TextN.codeG, TextN.four, TextN.gv, List.length_cons, List.length_nil, List.take_succ_cons, List.take_zero, bit]
  refine l4 ?_ ?_ ?_ ?_ <;> omega

theorem grp_two (a b : UInt8) : grp (bits8 a ++ bits8 b ++ [0, 0]) = TextN.codeG [a, b] := by
  have := a.toNat_lt
  have := b.toNat_lt
  simp only [bits8, List.cons_append, List.nil_append, grp, val6, TextN.codeG, TextN.four, TextN.gv, List.length_cons, List.length_nil, List.take_succ_cons, List.take_zero, bit]
  refine l3 ?_ ?_ ?_ <;> omega

theorem grp_one (a : UInt8) : grp (bits8 a ++ [0, 0, 0, 0]) = TextN.codeG [a] := by
  have := a.toNat_lt
  simp only [bits8, List.cons_append, List.nil_append, grp, val6, TextN.codeG, TextN.four, TextN.gv, List.length_cons, List.length_nil, List.take_succ_cons, List.take_zero, bit]
  refine l2 ?_ ?_ <;> omega

theorem grp_code (l : List UInt8) : grp (pad (bitsOf l)) = TextN.code l := by
  induction l using TextN.code.induct with
  | case1 a b c r ih =>
    have e : bitsOf (a :: b :: c :: r) = (bits8 a ++ bits8 b ++ bits8 c) ++ bitsOf r := by simp [bitsOf]
    rw [e, pad_append _ _ (by simp [bits8]), grp_append _ _ (by simp [bits8]), grp_three, ih, TextN.code]
  | case2 a b =>
    have e : pad (bitsOf [a, b]) = bits8 a ++ bits8 b ++ [0, 0] := by simp [bitsOf, pad, short, bits8]
    rw [e, grp_two, TextN.code]
  | case3 a =>
    have e : pad (bitsOf [a]) = bits8 a ++ [0, 0, 0, 0] := by simp [bitsOf, pad, short, bits8]
    rw [e, grp_one, TextN.code]
  | case4 => rfl

/-- The letters of the first groups. -/
theorem grp_next (l : List Nat) (m : Nat) (h : 6 * m + 6 ≤ l.length) : grp (l.take (6 * m + 6)) = grp (l.take (6 * m)) ++ [TextN.let_ (val ((l.drop (6 * m)).take 6))] := by
  have e : l.take (6 * m + 6) = l.take (6 * m) ++ (l.drop (6 * m)).take 6 := by rw [List.take_add]
  have hl : ((l.drop (6 * m)).take 6).length = 6 := by rw [List.length_take, List.length_drop]; omega
  rw [e, grp_append _ _ (by rw [List.length_take]; omega)]
  generalize (l.drop (6 * m)).take 6 = g at *
  rw [grp_step g (by omega), show g.take 6 = g from List.take_of_length_le (by omega), show g.drop 6 = [] from List.drop_of_length_le (by omega), grp_short [] (by simp)]

theorem pad_length (l : List Nat) : (pad l).length % 6 = 0 ∧ (pad l).length ≤ l.length + 5 := by
  unfold pad short
  rw [List.length_append, List.length_replicate]
  omega
end Go.Proofs.Ytnbchnaehmbfcaa.TextR
