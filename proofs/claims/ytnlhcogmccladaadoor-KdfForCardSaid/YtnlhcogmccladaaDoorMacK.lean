/-
  HMAC's keys, chains of codes, a turned bit: plain mathematics. Conditions: in each statement.
-/
import Derived.Test.YtnlhcogmccladaaDoorMacM
namespace Go.Proofs.YtnlhcogmccladaaDoor.MacM
open HashM HashX HashMath

theorem kb_short (k : List UInt8) (h : k.length ≤ 64) : kb k = k ++ List.replicate (64 - k.length) 0 := by
  have e : kk k = k := by unfold kk; rw [if_neg (by omega)]
  unfold kb fillK
  rw [e, List.take_of_length_le (Nat.le_refl _)]
theorem kb_more (k : List UInt8) (m : Nat) (h : k.length + m ≤ 64) : kb (k ++ List.replicate m 0) = kb k := by
  rw [kb_short _ (by simp; omega), kb_short k (by omega), List.append_assoc, List.length_append, List.length_replicate, List.replicate_append_replicate]
  congr 2
  omega
theorem kb_long (k : List UInt8) (h : 64 < k.length) : kb (HashM.sum k) = kb k := by
  have e1 : kk k = HashM.sum k := by unfold kk; rw [if_pos h]
  have e2 : kk (HashM.sum k) = HashM.sum k := by unfold kk; rw [if_neg (by rw [sum_len]; omega)]
  unfold kb
  rw [e1, e2]
theorem kb_block (k : List UInt8) (h : k.length = 64) : kb k = k := by
  rw [kb_short k (by omega), h]
  simp
theorem hmac_key {k m : List UInt8} (h : kb k = kb m) (b : List UInt8) : hmac k b = hmac m b := by
  unfold hmac inner outer
  rw [h]

/-- The codes of parts, each under the one before it. -/
def chain : List UInt8 → List (List UInt8) → List (List UInt8)
  | _, [] => []
  | k, p :: ps => hmac k p :: chain (hmac k p) ps
theorem chain_len (ps : List (List UInt8)) : ∀ k, (chain k ps).length = ps.length := by
  induction ps with
  | nil => intro k; rfl
  | cons p ps ih => intro k; rw [chain, List.length_cons, ih, List.length_cons]
theorem chain_32 (ps : List (List UInt8)) : ∀ k, ∀ d ∈ chain k ps, d.length = 32 := by
  induction ps with
  | nil => intro k d hd; exact (List.not_mem_nil hd).elim
  | cons p ps ih =>
    intro k d hd
    rw [chain, List.mem_cons] at hd
    rcases hd with h | h
    · rw [h]; exact hmac_len _ _
    · exact ih _ d h
theorem chain_snoc (ps : List (List UInt8)) (p : List UInt8) : ∀ k, chain k (ps ++ [p]) = chain k ps ++ [hmac ((chain k ps).getLastD k) p] := by
  induction ps with
  | nil => intro k; rfl
  | cons q ps ih =>
    intro k
    rw [List.cons_append, chain, ih, chain, List.cons_append]
    congr 4
    cases chain (hmac k q) ps <;> rfl
theorem chain_take (ps : List (List UInt8)) : ∀ k i, chain k (ps.take i) = (chain k ps).take i := by
  induction ps with
  | nil => intro k i; simp [chain]
  | cons p ps ih =>
    intro k i
    cases i with
    | zero => rfl
    | succ i => rw [List.take_succ_cons, chain, ih, chain, List.take_succ_cons]
theorem chain_drop (ps : List (List UInt8)) : ∀ k i, (h : i < ps.length) → (chain k ps).drop (i + 1) = chain ((chain k ps)[i]'(by rw [chain_len]; exact h)) (ps.drop (i + 1)) := by
  induction ps with
  | nil => intro k i h; exact absurd h (by simp)
  | cons p ps ih =>
    intro k i h
    cases i with
    | zero => rfl
    | succ i =>
      have h' : i < ps.length := by simpa using h
      have := ih (hmac k p) i h'
      simp only [chain, List.drop_succ_cons, List.getElem_cons_succ]
      exact this

/-- A turned bit is seen. -/
theorem turned (x : UInt8) (j : Nat) (hj : j < 8) : x ^^^ UInt8.ofNat (2 ^ j) ≠ x := by
  intro h
  have h2 : UInt8.ofNat (2 ^ j) = 0 := by
    have := congrArg (fun y => x ^^^ y) h
    simpa [← UInt8.xor_assoc] using this
  have h3 : ∀ i : Fin 8, UInt8.ofNat (2 ^ i.val) ≠ 0 := by decide
  exact h3 ⟨j, hj⟩ h2
theorem set_ne (D : List UInt8) (i n : Nat) (x : UInt8) (hi : i < n) (hn : n ≤ D.length) (hx : x ≠ D.getD i 0) : D.take n ≠ (D.set i x).take n := by
  intro h
  have h1 := congrArg (fun l => l[i]?) h
  simp only [List.getElem?_take, if_pos hi, List.getElem?_set_self (show i < D.length by omega), List.getElem?_eq_getElem (show i < D.length by omega)] at h1
  apply hx
  rw [List.getD_eq_getElem?_getD, List.getElem?_eq_getElem (by omega)]
  exact (Option.some.inj h1).symm
end Go.Proofs.YtnlhcogmccladaaDoor.MacM
