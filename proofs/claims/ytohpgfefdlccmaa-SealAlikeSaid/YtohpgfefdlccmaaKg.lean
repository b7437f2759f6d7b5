/-
  Several texts in one: StreamM, StreamK. What each holds stands at its head. Conditions: in each statement.
-/
import Derived.Test.YtohpgfefdlccmaaKa

/-
  ChaCha20 as plain mathematics; no program is named here. Conditions: in each statement.
-/
namespace Go.Proofs.Ytohpgfefdlccmaa.StreamM
open HashM

/-- Bytes as a number, the least first. -/
def val4 : List UInt8 → Nat
  | [] => 0
  | x :: r => x.toNat + 256 * val4 r
theorem val4_lt (l : List UInt8) : val4 l < 256 ^ l.length := by
  induction l with
  | nil => simp [val4]
  | cons x r ih =>
    have := x.toNat_lt
    rw [val4, List.length_cons, Nat.pow_succ]
    omega
/-- The words of bytes. -/
def lwords (b : List UInt8) : List Nat := (List.range (b.length / 4)).map fun i => val4 ((b.drop (4 * i)).take 4)
theorem lwords_len (b : List UInt8) : (lwords b).length = b.length / 4 := by simp [lwords]
def Ok (s : List Nat) : Prop := ∀ x ∈ s, x < 4294967296
theorem lwords_ok (b : List UInt8) : Ok (lwords b) := by
  intro x hx
  simp only [lwords, List.mem_map] at hx
  obtain ⟨i, _, rfl⟩ := hx
  have h := val4_lt ((b.drop (4 * i)).take 4)
  have h2 : ((b.drop (4 * i)).take 4).length ≤ 4 := by rw [List.length_take]; omega
  have h3 : 256 ^ ((b.drop (4 * i)).take 4).length ≤ 256 ^ 4 := Nat.pow_le_pow_right (by decide) h2
  have h4 : (256 : Nat) ^ 4 = 4294967296 := by decide
  omega
theorem Ok.getD {s : List Nat} (h : Ok s) (k : Nat) : s.getD k 0 < 4294967296 := by
  rw [List.getD_eq_getElem?_getD]
  cases e : s[k]? with
  | none => simp
  | some x =>
    obtain ⟨hk, e2⟩ := List.getElem?_eq_some_iff.1 e
    simp only [Option.getD_some]
    exact h x (by rw [← e2]; exact List.getElem_mem hk)
theorem Ok.set {s : List Nat} (h : Ok s) (k x : Nat) (hx : x < 4294967296) : Ok (s.set k x) := by
  intro y hy
  rcases List.mem_or_eq_of_mem_set hy with h1 | h1
  · exact h y h1
  · rw [h1]; exact hx
theorem Ok.append {s t : List Nat} (h : Ok s) (k : Ok t) : Ok (s ++ t) := fun x hx => by
  rcases List.mem_append.1 hx with h1 | h1
  · exact h x h1
  · exact k x h1

/-- Turned to the left. -/
def rotl (n x : Nat) : Nat := rot (32 - n) x
theorem rotl_lt (n x : Nat) (hn : n ≤ 32) (hx : x < 4294967296) : rotl n x < 4294967296 := by
  unfold rotl rot
  obtain ⟨m, hm⟩ : ∃ m, 32 - n = m := ⟨_, rfl⟩
  have hm2 : n = 32 - m := by omega
  rw [hm]
  have hp : 2 ^ m * 2 ^ (32 - m) = 4294967296 := by rw [← Nat.pow_add, show m + (32 - m) = 32 from by omega]
  have h0 : 0 < 2 ^ m := Nat.pow_pos (by decide)
  have h1 : x / 2 ^ m < 2 ^ (32 - m) := by rw [Nat.div_lt_iff_lt_mul h0, Nat.mul_comm, hp]; exact hx
  have h2 : x % 2 ^ m < 2 ^ m := Nat.mod_lt _ h0
  have h3 : (x % 2 ^ m + 1) * 2 ^ (32 - m) ≤ 2 ^ m * 2 ^ (32 - m) := Nat.mul_le_mul_right _ h2
  rw [hp, Nat.add_mul] at h3
  omega

/-- One word added to another, which is mixed into a third, turned. -/
def stepM (s : List Nat) (ta fa oa turn : Nat) : List Nat :=
  let s1 := s.set ta ((s.getD ta 0 + s.getD fa 0) % 4294967296)
  s1.set oa (rotl turn (s1.getD oa 0 ^^^ s1.getD ta 0))
theorem stepM_len (s : List Nat) (a b c n : Nat) : (stepM s a b c n).length = s.length := by simp [stepM]
theorem xor_lt (x y : Nat) (hx : x < 4294967296) (hy : y < 4294967296) : x ^^^ y < 4294967296 := Nat.xor_lt_two_pow (n := 32) hx hy
theorem stepM_ok {s : List Nat} (h : Ok s) (a b c n : Nat) (hn : n ≤ 32) : Ok (stepM s a b c n) := by
  have h1 : Ok (s.set a ((s.getD a 0 + s.getD b 0) % 4294967296)) := h.set a _ (Nat.mod_lt _ (by decide))
  exact h1.set c _ (rotl_lt n _ hn (xor_lt _ _ (h1.getD c) (h1.getD a)))
/-- The quarter round. -/
def quarter (s : List Nat) (a b c d : Nat) : List Nat := stepM (stepM (stepM (stepM s a b d 16) c d b 12) a b d 8) c d b 7
theorem quarter_len (s : List Nat) (a b c d : Nat) : (quarter s a b c d).length = s.length := by simp [quarter, stepM_len]
theorem quarter_ok {s : List Nat} (h : Ok s) (a b c d : Nat) : Ok (quarter s a b c d) := stepM_ok (stepM_ok (stepM_ok (stepM_ok h _ _ _ _ (by decide)) _ _ _ _ (by decide)) _ _ _ _ (by decide)) _ _ _ _ (by decide)
/-- Quarter round k of round r: along the columns, then along the diagonals. -/
def part (s : List Nat) (r k : Nat) : List Nat := if r % 2 = 1 then quarter s k (4 + (k + 1) % 4) (8 + (k + 2) % 4) (12 + (k + 3) % 4) else quarter s k (4 + k) (8 + k) (12 + k)
theorem part_len (s : List Nat) (r k : Nat) : (part s r k).length = s.length := by unfold part; split <;> exact quarter_len _ _ _ _ _
theorem part_ok {s : List Nat} (h : Ok s) (r k : Nat) : Ok (part s r k) := by unfold part; split <;> exact quarter_ok h _ _ _ _
/-- The first k quarter rounds of round r. -/
def parts (s : List Nat) (r : Nat) : Nat → List Nat
  | 0 => s
  | k + 1 => part (parts s r k) r k
theorem parts_len (s : List Nat) (r k : Nat) : (parts s r k).length = s.length := by
  induction k with
  | zero => rfl
  | succ k ih => rw [parts, part_len, ih]
theorem parts_ok {s : List Nat} (h : Ok s) (r k : Nat) : Ok (parts s r k) := by
  induction k with
  | zero => exact h
  | succ k ih => exact part_ok ih r k
/-- The first r rounds. -/
def rounds (s : List Nat) : Nat → List Nat
  | 0 => s
  | r + 1 => parts (rounds s r) r 4
theorem rounds_len (s : List Nat) (r : Nat) : (rounds s r).length = s.length := by
  induction r with
  | zero => rfl
  | succ r ih => rw [rounds, parts_len, ih]
theorem rounds_ok {s : List Nat} (h : Ok s) (r : Nat) : Ok (rounds s r) := by
  induction r with
  | zero => exact h
  | succ r ih => exact parts_ok ih r 4
/-- "expand 32-byte k". -/
def sigma : List UInt8 := [101, 120, 112, 97, 110, 100, 32, 51, 50, 45, 98, 121, 116, 101, 32, 107]
def start (key nonce : List UInt8) (n : Int) : List Nat := lwords sigma ++ lwords key ++ [(n % 4294967296).toNat] ++ lwords nonce
theorem start_len (key nonce : List UInt8) (n : Int) (hk : key.length = 32) (hn : nonce.length = 12) : (start key nonce n).length = 16 := by
  simp [start, lwords_len, hk, hn, sigma]
theorem start_ok (key nonce : List UInt8) (n : Int) : Ok (start key nonce n) :=
  (((lwords_ok _).append (lwords_ok _)).append (fun x hx => by simp at hx; omega)).append (lwords_ok _)
/-- Byte k of a block: out of the words after the rounds and before them. -/
def byteAt (s was : List Nat) (k : Nat) : UInt8 := UInt8.ofNat ((s.getD (k / 4) 0 + was.getD (k / 4) 0) % 4294967296 / 2 ^ (8 * (k % 4)))
def block (key nonce : List UInt8) (n : Int) : List UInt8 := (List.range 64).map (byteAt (rounds (start key nonce n) 20) (start key nonce n))
theorem block_len (key nonce : List UInt8) (n : Int) : (block key nonce n).length = 64 := by simp [block]
/-- The key stream's byte k from block n on. -/
def streamAt (key nonce : List UInt8) (n : Int) (k : Nat) : UInt8 := (block key nonce (n + (k / 64 : Nat))).getD (k % 64) 0
def mix (key nonce : List UInt8) (n : Int) (b : List UInt8) : List UInt8 := b.mapIdx fun k x => x ^^^ streamAt key nonce n k
theorem mix_len (key nonce : List UInt8) (n : Int) (b : List UInt8) : (mix key nonce n b).length = b.length := by simp [mix]

/-- RFC 8439, 2.3.2: the block of its example. -/
theorem block_rfc : (block ((List.range 32).map fun k => UInt8.ofNat k) [0, 0, 0, 9, 0, 0, 0, 0x4a, 0, 0, 0, 0] 1).take 16 = [0x10, 0xf1, 0xe7, 0xe4, 0xd1, 0x3b, 0x59, 0x15, 0x50, 0x0f, 0xdd, 0x1f, 0xa3, 0x20, 0x71, 0xc4] := by decide +kernel
end Go.Proofs.Ytohpgfefdlccmaa.StreamM

/-
  What the key stream's functions answer; mixed twice, from a block on, by bits, of noughts: plain mathematics. Conditions: in each statement.
-/
namespace Go.Proofs.Ytohpgfefdlccmaa.StreamM
open HashM

/-- What Block answers. -/
def blockM (key nonce : List UInt8) (n : Int) : List UInt8 × Int := if key.length ≠ 32 ∨ nonce.length ≠ 12 then ([], 1) else if n < 0 ∨ 4294967296 ≤ n then ([], 2) else (block key nonce n, 0)
/-- What Mix answers. -/
def mixM (key nonce : List UInt8) (n : Int) (b : List UInt8) : List UInt8 × Int := if key.length ≠ 32 ∨ nonce.length ≠ 12 then ([], 1) else if n < 0 ∨ 4294967296 ≤ n ∨ 16384 < b.length ∨ 64 * (4294967296 - n) < (b.length : Int) then ([], 2) else (mix key nonce n b, 0)
theorem mix_at (key nonce : List UInt8) (n : Int) (b : List UInt8) (i : Nat) : (mix key nonce n b)[i]? = b[i]?.map (· ^^^ streamAt key nonce n i) := by
  unfold mix
  rw [List.getElem?_mapIdx]
/-- Mixed twice. -/
theorem mix_mix (key nonce : List UInt8) (n : Int) (b : List UInt8) : mix key nonce n (mix key nonce n b) = b := by
  apply List.ext_getElem?
  intro i
  rw [mix_at, mix_at]
  cases b[i]? with
  | none => rfl
  | some x => simp [UInt8.xor_assoc]
theorem mix_take (key nonce : List UInt8) (n : Int) (b : List UInt8) (k : Nat) : mix key nonce n (b.take k) = (mix key nonce n b).take k := by
  apply List.ext_getElem?
  intro i
  rw [mix_at, List.getElem?_take, List.getElem?_take]
  split
  · rw [mix_at]
  · rfl
theorem stream_on (key nonce : List UInt8) (n : Int) (k i : Nat) : streamAt key nonce (n + (k : Nat)) i = streamAt key nonce n (64 * k + i) := by
  unfold streamAt
  rw [show (64 * k + i) / 64 = k + i / 64 by omega, show (64 * k + i) % 64 = i % 64 by omega, Int.natCast_add, Int.add_assoc]
/-- From block k on. -/
theorem mix_drop (key nonce : List UInt8) (n : Int) (b : List UInt8) (k : Nat) : mix key nonce (n + (k : Nat)) (b.drop (64 * k)) = (mix key nonce n b).drop (64 * k) := by
  apply List.ext_getElem?
  intro i
  rw [mix_at, List.getElem?_drop, List.getElem?_drop, mix_at, stream_on]
theorem mix_parts (key nonce : List UInt8) (n : Int) (b : List UInt8) (k : Nat) : mix key nonce n (b.take (64 * k)) ++ mix key nonce (n + (k : Nat)) (b.drop (64 * k)) = mix key nonce n b := by
  rw [mix_take, mix_drop, List.take_append_drop]
/-- Of noughts. -/
theorem mix_zeros (key nonce : List UInt8) (n : Int) (m k : Nat) (hk : k < m) : ((mix key nonce n (List.replicate (64 * m) 0)).drop (64 * k)).take 64 = block key nonce (n + (k : Nat)) := by
  apply List.ext_getElem?
  intro i
  rw [List.getElem?_take, List.getElem?_drop, mix_at]
  by_cases hi : i < 64
  · rw [if_pos hi, List.getElem?_replicate, if_pos (by omega), Option.map_some, ← stream_on]
    unfold streamAt
    rw [show i / 64 = 0 by omega, show i % 64 = i by omega, show n + (k : Int) + ((0 : Nat) : Int) = n + (k : Int) by omega]
    obtain ⟨B, hB⟩ : ∃ B, block key nonce (n + (k : Int)) = B := ⟨_, rfl⟩
    have hl : B.length = 64 := by rw [← hB]; exact block_len _ _ _
    rw [hB, List.getD_eq_getElem?_getD, List.getElem?_eq_getElem (by omega)]
    simp only [Option.getD_some, UInt8.zero_xor]
  · rw [if_neg hi, List.getElem?_eq_none (by rw [block_len]; omega)]
theorem mix_bits (key nonce : List UInt8) (n : Int) (a b : List UInt8) (i : Nat) (ha : i < a.length) (hb : i < b.length) (ha' : i < (mix key nonce n a).length) (hb' : i < (mix key nonce n b).length) : (mix key nonce n a)[i] ^^^ (mix key nonce n b)[i] = a[i] ^^^ b[i] := by
  have e1 := mix_at key nonce n a i
  have e2 := mix_at key nonce n b i
  rw [List.getElem?_eq_getElem ha', List.getElem?_eq_getElem ha] at e1
  rw [List.getElem?_eq_getElem hb', List.getElem?_eq_getElem hb] at e2
  have h : ∀ x y s : UInt8, (x ^^^ s) ^^^ (y ^^^ s) = x ^^^ y := fun x y s => by rw [UInt8.xor_comm y s, ← UInt8.xor_assoc, UInt8.xor_assoc x, UInt8.xor_self, UInt8.xor_zero]
  rw [Option.some.inj e1, Option.some.inj e2]
  exact h _ _ _
end Go.Proofs.Ytohpgfefdlccmaa.StreamM
