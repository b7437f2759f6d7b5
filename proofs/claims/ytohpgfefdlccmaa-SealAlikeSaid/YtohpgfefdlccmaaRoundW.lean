/-
  In a round of a range over a function, at the wide fence: an operation's law, a list's, that of a region in phases, out of those of plain code. Conditions: no 'defer' among the operations; the place behind does not let the stack's end out.
-/
import Derived.Test.YtohpgfefdlccmaaKc
import Derived.RangeFuncCalls
import Derived.OrdersIn
import Derived.TacticsIn
namespace Go.Proofs.Ytohpgfefdlccmaa.RoundW
open Go

section
variable {P : Program} {ops : Array Oper} {Q : Exit → Act → World → Prop} {md : Region.Mode} {n : Nat} {ro : Option Nat}

theorem op_in {o : Oper} {a : Act} {w : World} {K : Act → World → Prop} (hd : ∀ c, o.op ≠ .defer c) (h : o.wp P a w K Q) : o.wpIn { Fence.wide with round := ro } n P a w K Q := by
  refine ⟨fun _ _ => trivial, ?_⟩
  have hs : Oper.semAt ro a.eval o = execOp a.eval o := by
    cases ro with
    | none => exact Oper.semAt_none _ _
    | some l => exact Oper.semAt_some _ _ _ hd
  show o.uponIn _ n P a K Q ((Oper.semAt ro a.eval o).run P w)
  rw [hs]
  unfold Oper.wp at h
  generalize (execOp a.eval o).run P w = r at *
  cases r with
  | ok x w' =>
    cases x with
    | value v => exact h
    | skip => exact h
    | defer d => exact h
    | enter f args =>
      refine ⟨fun h => (by cases h), ?_⟩
      exact (callsIn_wide (n := n - 1)).2 h
    | row row args =>
      refine ⟨fun h => (by cases h), fun c cs _ => ?_⟩
      obtain ⟨v, w'', r, s⟩ := h c cs
      exact ⟨v, w'', r, stepsIn_wide.2 s⟩
    | _ => exact h.elim
  | halt x w' => cases x <;> first | exact h | exact h.elim
theorem opOf_in {i : Nat} {a : Act} {w : World} {K : Act → World → Prop} (hd : ∀ o, ops[i]? = some o → ∀ c, o.op ≠ .defer c) (hno : ¬ LetsOut Q) (h : wpOp P ops Q i K a w) : wpOpIn { Fence.wide with round := ro } n P ops Q i K a w := by
  unfold wpOp at h
  unfold wpOpIn
  cases ho : ops[i]? with
  | none => rw [ho] at h; exact h
  | some o =>
    rw [ho] at h
    simp only at h ⊢
    split at h
    · rename_i hw
      rw [if_pos hw]
      rcases h with h | h
      · exact op_in (hd o ho) h
      · exact absurd h.2 hno
    · rename_i hw
      rw [if_neg hw]
      exact ⟨fun _ _ => trivial, h⟩
theorem any_in (hd : ∀ (i : Nat) (o : Oper), ops[i]? = some o → ∀ c, o.op ≠ .defer c) (hno : ¬ LetsOut Q) : ∀ (fuel : Nat) (listed : Array Bool) (a : Act) (w : World), wpAny P md ops Q fuel listed a w → wpAnyIn { Fence.wide with round := ro } n P md ops Q fuel listed a w := by
  intro fuel
  induction fuel with
  | zero => intro listed a w h; exact h
  | succ fuel ih =>
    intro listed a w h
    refine ⟨h.1, fun i hi => ?_⟩
    exact wpOpIn_mono (fun a w => ih _ a w) (opOf_in (hd i) hno (h.2 i hi))
/-- No 'defer' among them. -/
def noDefer (l : List Oper) : Bool := l.all fun o => match o.op with | .defer _ => false | _ => true
theorem noDefer_spec {l : List Oper} (h : noDefer l = true) : ∀ (i : Nat) (o : Oper), l.toArray[i]? = some o → ∀ c, o.op ≠ .defer c := by
  intro i o ho c hc
  have hm : o ∈ l := by
    have : l[i]? = some o := by simpa using ho
    exact List.mem_of_getElem? this
  have h1 := List.all_eq_true.1 h o hm
  rw [hc] at h1
  cases h1

/-- A region in phases, in a round. -/
theorem wpIn_region_phases {id : Nat} {a : Act} {w : World} {l : List Oper} (m : List (List Nat × List Nat × Option Nat)) (S : World → Prop) (hm : P.follows .mixedOrders = true) (hB : Phase.phasesOk l m = true) (hnd : noDefer l = true) (hno : ¬ LetsOut Q)
    (hQ : ∀ c a d v w, Q (.panic c) (a.put d v) w → Q (.panic c) a w) (hS : S w.drew)
    (h : Phase.wpG P l.toArray Q m S a) : (Code.region id l.toArray true).wpIn { Fence.wide with round := ro } n P Q a w := by
  simp only [Phase.phasesOk, Bool.and_eq_true] at hB
  obtain ⟨⟨hs, hf⟩, hB⟩ := hB
  have hM := Phase.masks_sound (md := .any) (ops := l.toArray) l [] (by simp) (by simp)
  have hc : Phase.Closed .any l.toArray (Array.replicate l.length false) := fun j oj _ hl => by rw [getD_replicate_false] at hl; cases hl
  have := Phase.g_sound (P := P) (Q := Q) hM hs hQ m S _ a w.drew hc hB h hS
  rw [show Phase.fuelOf m = l.toArray.size by simpa using hf] at this
  exact wpIn_region_any hm (any_in (noDefer_spec hnd) hno _ _ _ _ (by simpa using this))
/-- A region in the order of the text, in a round. -/
theorem list_in (hno : ¬ LetsOut Q) : ∀ (l : List Oper) (a : Act) (w : World), noDefer l = true → wpList P ops Q l a w → wpListIn { Fence.wide with round := ro } n P ops Q l a w := by
  intro l
  induction l with
  | nil => intro a w _ h; exact h
  | cons o l ih =>
    intro a w hd h
    have hd1 : ∀ c, o.op ≠ .defer c := noDefer_spec hd 0 o rfl
    have hd2 : noDefer l = true := by
      unfold noDefer at hd ⊢
      rw [List.all_cons, Bool.and_eq_true] at hd
      exact hd.2
    simp only [wpList] at h
    simp only [wpListIn]
    split at h
    · rename_i hw
      rw [if_pos hw]
      rcases h with h | h
      · exact Oper.wpIn_mono (fun a w => ih a w hd2) (op_in hd1 h)
      · exact absurd h.2 hno
    · rename_i hw
      rw [if_neg hw]
      exact ⟨fun _ _ => trivial, ih _ _ hd2 h⟩
theorem wpIn_region_lex {id : Nat} {a : Act} {w : World} {l : List Oper} (hnd : noDefer l = true) (hno : ¬ LetsOut Q) (h : wpList P l.toArray Q l a w) : (Code.region id l.toArray false).wpIn { Fence.wide with round := ro } n P Q a w :=
  wpIn_region_lit (list_in hno l a w hnd h)
/-- Where it goes on alone. -/
def onlyN (Q : Exit → Act → World → Prop) : Exit → Act → World → Prop
  | .normal, a, w => Q .normal a w
  | _, _, _ => False
theorem wp_onlyN {c : Code} {a : Act} {w : World} (h : c.wp P (onlyN Q) a w) : c.wp P Q a w :=
  wp_mono h fun e a w h => by cases e <;> first | exact h | exact h.elim
end
end Go.Proofs.Ytohpgfefdlccmaa.RoundW
