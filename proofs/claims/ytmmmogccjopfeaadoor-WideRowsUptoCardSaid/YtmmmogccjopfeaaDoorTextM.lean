/-
  Plain mathematics of hexadecimal text: no program is named here. Conditions: none.
-/
namespace Go.Proofs.YtmmmogccjopfeaaDoor.TextM

/-- A half byte's digit. -/
def hexD (n : Nat) : UInt8 := if n < 10 then UInt8.ofNat (48 + n) else UInt8.ofNat (87 + n)

def hex : List UInt8 → List UInt8
  | [] => []
  | c :: r => hexD (c.toNat / 16) :: hexD (c.toNat % 16) :: hex r

theorem hex_append (a b : List UInt8) : hex (a ++ b) = hex a ++ hex b := by
  induction a with
  | nil => rfl
  | cons c r ih => simp [hex, ih]

theorem hex_length (a : List UInt8) : (hex a).length = 2 * a.length := by
  induction a with
  | nil => rfl
  | cons c r ih => simp [hex, ih]; omega

theorem take_snoc (l : List UInt8) (k : Nat) (h : k < l.length) : l.take (k + 1) = l.take k ++ [l[k]] :=
  List.take_succ_eq_append_getElem h

theorem hex_take (l : List UInt8) (k : Nat) (h : k < l.length) :
    hex (l.take (k + 1)) = (hex (l.take k) ++ [hexD (l[k].toNat / 16)]) ++ [hexD (l[k].toNat % 16)] := by
  rw [take_snoc l k h, hex_append]; simp [hex]

theorem digits_at (n : Nat) (h : n < 16) (h' : n < (⟨#[48, 49, 50, 51, 52, 53, 54, 55, 56, 57, 97, 98, 99, 100, 101, 102]⟩ : ByteArray).size) :
    (⟨#[48, 49, 50, 51, 52, 53, 54, 55, 56, 57, 97, 98, 99, 100, 101, 102]⟩ : ByteArray)[n] = hexD n := by
  match n, h with
  | 0, _ => rfl
  | 1, _ => rfl
  | 2, _ => rfl
  | 3, _ => rfl
  | 4, _ => rfl
  | 5, _ => rfl
  | 6, _ => rfl
  | 7, _ => rfl
  | 8, _ => rfl
  | 9, _ => rfl
  | 10, _ => rfl
  | 11, _ => rfl
  | 12, _ => rfl
  | 13, _ => rfl
  | 14, _ => rfl
  | 15, _ => rfl
  | n + 16, h => omega

/-- Two half bytes. -/
def pair (x y : Nat) : UInt8 := UInt8.ofNat (16 * x + y)

/-- A digit's number. -/
def dig (c : UInt8) : Option Nat :=
  if 48 ≤ c.toNat ∧ c.toNat ≤ 57 then some (c.toNat - 48) else if 97 ≤ c.toNat ∧ c.toNat ≤ 102 then some (c.toNat - 87) else none

/-- Reading digits, pair by pair, behind the bytes that have been read: the error's number and the bytes. -/
def unhexF (acc : List UInt8) : List UInt8 → Nat × List UInt8
  | [] => (0, acc)
  | [a] => match dig a with
    | none => (1, [])
    | some _ => (8, [])
  | a :: b :: r => match dig a with
    | none => (1, [])
    | some x => match dig b with
      | none => (1, [])
      | some y => unhexF (acc ++ [pair x y]) r

/-- What Unhex hands back. -/
def unhex (s : List UInt8) : Nat × List UInt8 := if 32768 < s.length then (2, []) else unhexF [] s

theorem dig_lt {c : UInt8} {n : Nat} (h : dig c = some n) : n < 16 := by
  unfold dig at h
  split at h
  · simp at h; omega
  · split at h
    · simp at h; omega
    · cases h

theorem drop_two (s : List UInt8) (k : Nat) (h : k + 1 < s.length) : s.drop k = s[k] :: s[k + 1] :: s.drop (k + 2) := by
  rw [List.drop_eq_getElem_cons (by omega), List.drop_eq_getElem_cons (by omega)]

theorem drop_one (s : List UInt8) (k : Nat) (h : k + 1 = s.length) : s.drop k = [s[k]] := by
  rw [List.drop_eq_getElem_cons (by omega), List.drop_of_length_le (by omega)]

theorem unhexF_two (acc s : List UInt8) (k : Nat) (h : k + 1 < s.length) {x y : Nat} (hx : dig s[k] = some x) (hy : dig s[k + 1] = some y) :
    unhexF acc (s.drop k) = unhexF (acc ++ [pair x y]) (s.drop (k + 2)) := by
  rw [drop_two s k h]; simp [unhexF, hx, hy]

theorem unhexF_bad1 (acc s : List UInt8) (k : Nat) (h : k < s.length) (hx : dig s[k] = none) : unhexF acc (s.drop k) = (1, []) := by
  rcases Nat.lt_or_ge (k + 1) s.length with h1 | h1
  · rw [drop_two s k h1]; simp [unhexF, hx]
  · rw [drop_one s k (by omega)]; simp [unhexF, hx]

theorem unhexF_bad2 (acc s : List UInt8) (k : Nat) (h : k + 1 < s.length) {x : Nat} (hx : dig s[k] = some x) (hy : dig s[k + 1] = none) : unhexF acc (s.drop k) = (1, []) := by
  rw [drop_two s k h]; simp [unhexF, hx, hy]

theorem unhexF_one (acc s : List UInt8) (k : Nat) (h : k + 1 = s.length) {x : Nat} (hx : dig s[k] = some x) : unhexF acc (s.drop k) = (8, []) := by
  rw [drop_one s k h]; simp [unhexF, hx]

end Go.Proofs.YtmmmogccjopfeaaDoor.TextM
