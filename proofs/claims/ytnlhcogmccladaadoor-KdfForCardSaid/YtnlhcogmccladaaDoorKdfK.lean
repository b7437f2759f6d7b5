/-
  Key schedules: plain mathematics. Conditions: in each statement.
-/
import Derived.Test.YtnlhcogmccladaaDoorKdfM
import Derived.Test.YtnlhcogmccladaaDoorMacK
namespace Go.Proofs.YtnlhcogmccladaaDoor.KdfM
open HashM HashX HashMath MacM

/-- What Expand answers. -/
def expandM (key info : List UInt8) (long : Int) : List UInt8 × Int := if long < 0 ∨ 8160 < long then ([], 2) else (expand key info long.toNat, 0)
/-- Nothing stands for noughts. -/
def fillZ (p : List UInt8) : List UInt8 := if p.length = 0 then List.replicate 32 0 else p
theorem fillZ_two (p : List UInt8) : fillZ (fillZ p) = fillZ p := by
  unfold fillZ
  by_cases h : p.length = 0
  · rw [if_pos h]; simp
  · rw [if_neg h, if_neg h]
/-- "derived". -/
def derived : List UInt8 := [100, 101, 114, 105, 118, 101, 100]
/-- The next salt. -/
def nextSalt (d : List UInt8) : List UInt8 := (glabel d derived [] 32).1
/-- A schedule from a salt on. -/
def stepsF : List UInt8 → List (List UInt8) → List (List UInt8)
  | _, [] => []
  | s, p :: ps => extract s (fillZ p) :: stepsF (nextSalt (extract s (fillZ p))) ps
def steps (ps : List (List UInt8)) : List (List UInt8) := stepsF [] ps
theorem stepsF_len (ps : List (List UInt8)) : ∀ s, (stepsF s ps).length = ps.length := by
  induction ps with
  | nil => intro s; rfl
  | cons p ps ih => intro s; rw [stepsF, List.length_cons, ih, List.length_cons]
theorem steps_len (ps : List (List UInt8)) : (steps ps).length = ps.length := stepsF_len ps []
theorem stepsF_32 (ps : List (List UInt8)) : ∀ s, ∀ d ∈ stepsF s ps, d.length = 32 := by
  induction ps with
  | nil => intro s d hd; exact (List.not_mem_nil hd).elim
  | cons p ps ih =>
    intro s d hd
    rw [stepsF, List.mem_cons] at hd
    rcases hd with h | h
    · rw [h]; exact hmac_len _ _
    · exact ih _ d h
theorem stepsF_take (ps : List (List UInt8)) : ∀ s i, stepsF s (ps.take i) = (stepsF s ps).take i := by
  induction ps with
  | nil => intro s i; simp [stepsF]
  | cons p ps ih =>
    intro s i
    cases i with
    | zero => rfl
    | succ i => rw [List.take_succ_cons, stepsF, ih, stepsF, List.take_succ_cons]
theorem stepsF_fill (ps : List (List UInt8)) : ∀ s, stepsF s (ps.map fillZ) = stepsF s ps := by
  induction ps with
  | nil => intro s; rfl
  | cons p ps ih => intro s; rw [List.map_cons, stepsF, ih, stepsF, fillZ_two]
/-- The first, and each further one out of the one before it. -/
theorem stepsF_zero (s p : List UInt8) (ps : List (List UInt8)) : (stepsF s (p :: ps))[0]? = some (extract s (fillZ p)) := rfl
theorem stepsF_succ (ps : List (List UInt8)) : ∀ s i d, (stepsF s ps)[i]? = some d → ∀ p, ps[i + 1]? = some p → (stepsF s ps)[i + 1]? = some (extract (nextSalt d) (fillZ p)) := by
  induction ps with
  | nil => intro s i d h; simp [stepsF] at h
  | cons q ps ih =>
    intro s i d h p hp
    rw [stepsF] at h ⊢
    rw [List.getElem?_cons_succ] at hp ⊢
    cases i with
    | zero =>
      simp at h
      subst h
      cases ps with
      | nil => simp at hp
      | cons r ps => simp at hp; subst hp; rfl
    | succ i =>
      rw [List.getElem?_cons_succ] at h
      exact ih _ i d h p hp
end Go.Proofs.YtnlhcogmccladaaDoor.KdfM
