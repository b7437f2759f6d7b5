/-
  Several texts in one: Quiet, Tail, Tree. What each holds stands at its head. Conditions: in each statement.
-/
import Derived.Test.YtfngomlknhappaaDoorKb
import Derived.Deep.Quiet
import Derived.Deep.QuietTactic
import Derived.OrdersHeld

/-
  A region that draws its order and whose operations only read or call functions that leave what lies below as it is: one walk of the lexical order. Conditions: in the statement.
-/
namespace Go.Proofs.YtfngomlknhappaaDoor.BytesW
open Go.RowKit

/-- The worlds that leave w as it is, below its own end. -/
def Ab (w : World) : Type := {W : World // Below w.heap.size w W}
def Ab.val {w : World} (x : Ab w) : World := Subtype.val x
theorem Ab.property {w : World} (x : Ab w) : Below w.heap.size w x.val := Subtype.property x
/-- The class of these worlds. -/
def Cl (w W : World) : Prop := ∃ x : Ab w, W = x.val

theorem Cl.of {w W : World} (h : Below w.heap.size w W) : Cl w W := ⟨⟨W, h⟩, rfl⟩
theorem Cl.below {w W : World} (h : Cl w W) : Below w.heap.size w W := by obtain ⟨x, rfl⟩ := h; exact x.property
theorem ab (w : World) : Nonempty (Ab w) := ⟨⟨w, Below.refl _ _⟩⟩

theorem wp_region_cl {P : Program} {id : Nat} {Q : Exit → Act → World → Prop} {a : Act} {w : World} {l : List Oper} (hm : P.follows .mixedOrders = true) (hB : Region.lexB .any l.toArray = true)
    (h : wpQuiet P l.toArray (fun W => ∃ x : Ab w, W = x.val) (fun a' => ∀ W, Below w.heap.size w W → Q .normal a' W) l a) : (Code.region id l.toArray true).wp P Q a w :=
  wp_region_quiet (C := fun W => ∃ x : Ab w, W = x.val) (P := P) (Q := Q) hm hB (Cl.of (Below.refl w.heap.size w).drew) (by
    have e : (fun a' => ∀ W, Below w.heap.size w W → Q .normal a' W) = (fun a' => ∀ w', (∃ x : Ab w, w' = x.val) → Q .normal a' w') := by
      funext a'
      apply propext
      exact ⟨fun h W hW => h W (Cl.below hW), fun h W hW => h W (Cl.of hW)⟩
    rw [← e]
    simpa using h)

/-- A call under a contract that holds in each world of the class. -/
theorem call_cl {P : Program} {f : FuncId} {args : Array Value} {w : World} {v : Value} (h : ∀ W, Below w.heap.size w W → Calls P f args W fun e w' => e = .returned v ∧ Below w.heap.size w w') (x : Ab w) :
    Calls P f args x.val fun e w'' => e = .returned v ∧ ∃ y : Ab w, w'' = y.val :=
  (h x.val x.property).mono fun _ _ ⟨he, hb⟩ => ⟨he, Cl.of hb⟩
end Go.Proofs.YtfngomlknhappaaDoor.BytesW

/-
  A region that draws its order, most of whose operations only read, whatever lies above a given point, and whose others stand in a forced order of their own: the readers are walked first, in the order of the text; then the others. Conditions: in the statement.
-/
namespace Go.Proofs.YtfngomlknhappaaDoor.BytesW
open Go.RowKit

section
variable {P : Program} {ops : Array Oper} {Q : Exit → Act → World → Prop} {S : World → Prop}

/-- The walk of the operations that are marked 'true': each yields one value in every world that meets S. -/
def wpPure (P : Program) (ops : Array Oper) (S : World → Prop) (R : Act → Prop) : List Oper → List Bool → Act → Prop
  | o :: l, true :: m, a => if Region.wanted o (yielded ops a.tmps) then ∃ v, (∀ w, S w → (execOp a.eval o).run P w = .ok (.value v) w) ∧ wpPure P ops S R l m (a.put o.dst v) else wpPure P ops S R l m (a.put o.dst undef)
  | _ :: l, false :: m, a => wpPure P ops S R l m a
  | _, _, a => R a

/-- The walk of the operations that are marked 'false', one behind the other; S holds behind each. -/
def wpTail (P : Program) (ops : Array Oper) (S : World → Prop) (Q : Exit → Act → World → Prop) : List Oper → List Bool → Act → World → Prop
  | _ :: l, true :: m, a, w => wpTail P ops S Q l m a w
  | o :: l, false :: m, a, w => if Region.wanted o (yielded ops a.tmps) then o.wp P a w (fun a' w' => S w' ∧ wpTail P ops S Q l m a' w') Q else wpTail P ops S Q l m (a.put o.dst undef) w
  | _, _, a, w => Q .normal a w

theorem wpPure_nil {R : Act → Prop} {a : Act} (h : R a) : wpPure P ops S R [] [] a := h
theorem wpPure_skip {R : Act → Prop} {a : Act} {o : Oper} {l : List Oper} {m : List Bool} (h : wpPure P ops S R l m a) : wpPure P ops S R (o :: l) (false :: m) a := h
theorem wpPure_step {R : Act → Prop} {a : Act} {o : Oper} {l : List Oper} {m : List Bool}
    (h : ∀ K : Act → Prop, (∀ a, wpPure P ops S R l m a → K a) → if Region.wanted o (yielded ops a.tmps) then ∃ v, (∀ w, S w → (execOp a.eval o).run P w = .ok (.value v) w) ∧ K (a.put o.dst v) else K (a.put o.dst undef)) : wpPure P ops S R (o :: l) (true :: m) a :=
  h _ fun _ h => h
theorem wpTail_nil {a : Act} {w : World} (h : Q .normal a w) : wpTail P ops S Q [] [] a w := h
theorem wpTail_skip {a : Act} {w : World} {o : Oper} {l : List Oper} {m : List Bool} (h : wpTail P ops S Q l m a w) : wpTail P ops S Q (o :: l) (true :: m) a w := h
theorem wpTail_step {a : Act} {w : World} {o : Oper} {l : List Oper} {m : List Bool}
    (h : ∀ K : Act → World → Prop, (∀ a w, S w ∧ wpTail P ops S Q l m a w → K a w) → if Region.wanted o (yielded ops a.tmps) then o.wp P a w K Q else ∀ a', a' = a.put o.dst undef → S w → K a' w) (hS : S w) : wpTail P ops S Q (o :: l) (false :: m) a w := by
  have h' := h (fun a' w' => S w' ∧ wpTail P ops S Q l m a' w') (fun _ _ h => h)
  unfold wpTail
  split
  · rename_i hw; rw [if_pos hw] at h'; exact h'
  · rename_i hw; rw [if_neg hw] at h'; exact (h' _ rfl hS).2

/-- The readers may come up in the order of the text, each beside all that could come before it. -/
def pureOk (ops : Array Oper) : List Bool → Nat → Array Bool → Option (Array Bool)
  | [], _, listed => some listed
  | true :: m, k, listed => if (Region.ready .any ops listed).contains k && Region.free .any ops listed k then pureOk ops m (k + 1) (listed.setIfInBounds k true) else none
  | false :: m, k, listed => pureOk ops m (k + 1) listed
/-- The others come up one behind the other. -/
def tailOk (ops : Array Oper) : List Bool → Nat → Array Bool → Bool
  | [], _, listed => Region.ready .any ops listed == []
  | false :: m, k, listed => Region.ready .any ops listed == [k] && tailOk ops m (k + 1) (listed.setIfInBounds k true)
  | true :: m, k, listed => tailOk ops m (k + 1) listed
def splitOk (ops : Array Oper) (m : List Bool) : Bool := Region.noSelect ops && match pureOk ops m 0 (Array.replicate ops.size false) with
  | some listed => tailOk ops m 0 listed
  | none => false

theorem tail_sound : ∀ (m : List Bool) (l : List Oper) (k fuel : Nat) (listed : Array Bool) (a : Act) (w : World), (∀ j, l[j]? = ops[k + j]?) → l.length = m.length → (m.filter (!·)).length ≤ fuel → tailOk ops m k listed = true →
    wpTail P ops S Q l m a w → S w → wpAnyH P .any ops Q S fuel listed a w := by
  intro m
  induction m with
  | nil =>
    intro l k fuel listed a w _ hlen _ hB h _
    have hl : l = [] := List.eq_nil_of_length_eq_zero (by simpa using hlen)
    subst hl
    exact wpAnyH_done (by simpa [tailOk] using hB) h fuel
  | cons b m ih =>
    intro l k fuel listed a w hl hlen hf hB h hS
    cases l with
    | nil => simp at hlen
    | cons o l =>
      have hl' : ∀ j, l[j]? = ops[k + 1 + j]? := fun j => by have := hl (j + 1); simpa [Nat.add_assoc, Nat.add_comm 1 j] using this
      have h0 : ops[k]? = some o := by simpa using (hl 0).symm
      cases b with
      | true => exact ih l (k + 1) fuel listed a w hl' (by simpa using hlen) (by simpa using hf) hB h hS
      | false =>
        simp only [tailOk, Bool.and_eq_true] at hB
        obtain ⟨hr, hB'⟩ := hB
        have hf' : (m.filter (!·)).length + 1 ≤ fuel := by simpa using hf
        obtain ⟨fuel, rfl⟩ : ∃ f, fuel = f + 1 := ⟨fuel - 1, by omega⟩
        refine wpAnyH_all (rs := [k]) (by simpa using hr) (by simp) fun i hi => ?_
        have hik : i = k := by simpa using hi
        subst hik
        unfold wpOp
        simp only [h0]
        unfold wpTail at h
        split
        · rename_i hw
          rw [if_pos hw] at h
          exact .inl (Oper.wp_mono (fun a' w' h' => ⟨h'.1, ih l (i + 1) fuel _ a' w' hl' (by simpa using hlen) (by omega) hB' h'.2 h'.1⟩) h)
        · rename_i hw
          rw [if_neg hw] at h
          exact ⟨hS, ih l (i + 1) fuel _ _ w hl' (by simpa using hlen) (by omega) hB' h hS⟩

theorem pure_sound (hs : Region.noSelect ops = true) (hQ : ∀ c a d v w, Q (.panic c) (a.put d v) w → Q (.panic c) a w) {R : Act → Prop} {end_ : Array Bool} {n : Nat} :
    ∀ (m : List Bool) (l : List Oper) (k : Nat) (listed : Array Bool) (a : Act) (w : World), (∀ j, l[j]? = ops[k + j]?) → l.length = m.length → pureOk ops m k listed = some end_ → S w →
    (∀ a, R a → wpAnyH P .any ops Q S n end_ a w) → wpPure P ops S R l m a → wpAnyH P .any ops Q S ((m.filter id).length + n) listed a w := by
  intro m
  induction m with
  | nil =>
    intro l k listed a w _ hlen hB _ hR h
    have hl : l = [] := List.eq_nil_of_length_eq_zero (by simpa using hlen)
    subst hl
    simp only [pureOk, Option.some.injEq] at hB
    subst hB
    simpa using hR a h
  | cons b m ih =>
    intro l k listed a w hl hlen hB hS hR h
    cases l with
    | nil => simp at hlen
    | cons o l =>
      have hl' : ∀ j, l[j]? = ops[k + 1 + j]? := fun j => by have := hl (j + 1); simpa [Nat.add_assoc, Nat.add_comm 1 j] using this
      have h0 : ops[k]? = some o := by simpa using (hl 0).symm
      cases b with
      | false => simpa using ih l (k + 1) listed a w hl' (by simpa using hlen) hB hS hR h
      | true =>
        simp only [pureOk] at hB
        split at hB
        · rename_i hc
          simp only [Bool.and_eq_true] at hc
          have e : ((true :: m).filter id).length + n = (m.filter id).length + n + 1 := by simp; omega
          rw [e]
          unfold wpPure at h
          split at h
          · rename_i hw
            obtain ⟨v, hv, hk⟩ := h
            exact wpAnyH_take h0 hs hc.2 hc.1 (fun c a w => hQ c a _ _ w) (Or.inl ⟨hw, hv⟩) hS (ih l (k + 1) _ _ w hl' (by simpa using hlen) hB hS hR hk)
          · rename_i hw
            exact wpAnyH_take h0 hs hc.2 hc.1 (fun c a w => hQ c a _ _ w) (Or.inr ⟨by simpa using hw, rfl⟩) hS (ih l (k + 1) _ _ w hl' (by simpa using hlen) hB hS hR h)
        · cases hB

theorem wpAnyH_mono_fuel {fuel fuel' : Nat} (e : fuel = fuel') {listed : Array Bool} {a : Act} {w : World} (h : wpAnyH P .any ops Q S fuel listed a w) : wpAnyH P .any ops Q S fuel' listed a w := e ▸ h

theorem count_marks (m : List Bool) : (m.filter id).length + (m.filter (!·)).length = m.length := by
  induction m with
  | nil => rfl
  | cons b m ih => cases b <;> simp <;> omega

theorem wp_region_tail {id : Nat} {a : Act} {w : World} {l : List Oper} (m : List Bool) (hm : P.follows .mixedOrders = true) (hB : splitOk l.toArray m = true) (hlen : l.length = m.length) (hQ : ∀ c a d v w, Q (.panic c) (a.put d v) w → Q (.panic c) a w)
    (hS : S w.drew) (h : wpPure P l.toArray S (fun a' => wpTail P l.toArray S Q l m a' w.drew) l m a) : (Code.region id l.toArray true).wp P Q a w := by
  simp only [splitOk, Bool.and_eq_true] at hB
  obtain ⟨hs, hB⟩ := hB
  cases hp : pureOk l.toArray m 0 (Array.replicate l.toArray.size false) with
  | none => rw [hp] at hB; cases hB
  | some end_ =>
    rw [hp] at hB
    refine wp_region_held (S := S) hm ?_
    have hp' := pure_sound (Q := Q) (n := (m.filter (!·)).length) hs hQ m l 0 _ a w.drew (by simp) hlen hp hS (fun a' ha' => tail_sound m l 0 _ end_ a' w.drew (by simp) hlen (Nat.le_refl _) hB ha' hS) h
    rw [count_marks, ← hlen] at hp'
    have e : l.length = l.toArray.size := by simp
    exact wpAnyH_mono_fuel e hp'

/-- A schedule's walk: each entry names an operation and says whether it only reads ('true': one value in every world that meets S; it may come up whenever it is ready) or comes up alone ('false': S holds behind it). -/
def wpSched (P : Program) (ops : Array Oper) (S : World → Prop) (Q : Exit → Act → World → Prop) : List (Nat × Bool) → Act → World → Prop
  | (i, true) :: m, a, w => ∃ o, ops[i]? = some o ∧ if Region.wanted o (yielded ops a.tmps) then ∃ v, (∀ w, S w → (execOp a.eval o).run P w = .ok (.value v) w) ∧ wpSched P ops S Q m (a.put o.dst v) w else wpSched P ops S Q m (a.put o.dst undef) w
  | (i, false) :: m, a, w => ∃ o, ops[i]? = some o ∧ if Region.wanted o (yielded ops a.tmps) then o.wp P a w (fun a' w' => S w' ∧ wpSched P ops S Q m a' w') Q else wpSched P ops S Q m (a.put o.dst undef) w
  | [], a, w => Q .normal a w

theorem wpSched_nil {a : Act} {w : World} (h : Q .normal a w) : wpSched P ops S Q [] a w := h
theorem wpSched_read {i : Nat} {o : Oper} {m : List (Nat × Bool)} {a : Act} {w : World} (hi : ops[i]? = some o)
    (h : ∀ K : Act → Prop, (∀ a, wpSched P ops S Q m a w → K a) → if Region.wanted o (yielded ops a.tmps) then ∃ v, (∀ w, S w → (execOp a.eval o).run P w = .ok (.value v) w) ∧ K (a.put o.dst v) else K (a.put o.dst undef)) : wpSched P ops S Q ((i, true) :: m) a w :=
  ⟨o, hi, h _ fun _ h => h⟩
theorem wpSched_step {i : Nat} {o : Oper} {m : List (Nat × Bool)} {a : Act} {w : World} (hi : ops[i]? = some o) (hS : S w)
    (h : ∀ K : Act → World → Prop, (∀ a w, S w ∧ wpSched P ops S Q m a w → K a w) → if Region.wanted o (yielded ops a.tmps) then o.wp P a w K Q else ∀ a', a' = a.put o.dst undef → S w → K a' w) : wpSched P ops S Q ((i, false) :: m) a w := by
  refine ⟨o, hi, ?_⟩
  have h' := h (fun a' w' => S w' ∧ wpSched P ops S Q m a' w') (fun _ _ h => h)
  split
  · rename_i hw; rw [if_pos hw] at h'; exact h'
  · rename_i hw; rw [if_neg hw] at h'; exact (h' _ rfl hS).2

def schedOk (ops : Array Oper) : List (Nat × Bool) → Array Bool → Bool
  | [], listed => Region.ready .any ops listed == []
  | (i, true) :: m, listed => (Region.ready .any ops listed).contains i && Region.free .any ops listed i && schedOk ops m (listed.setIfInBounds i true)
  | (i, false) :: m, listed => Region.ready .any ops listed == [i] && schedOk ops m (listed.setIfInBounds i true)

theorem sched_sound (hs : Region.noSelect ops = true) (hQ : ∀ c a d v w, Q (.panic c) (a.put d v) w → Q (.panic c) a w) :
    ∀ (m : List (Nat × Bool)) (fuel : Nat) (listed : Array Bool) (a : Act) (w : World), m.length ≤ fuel → schedOk ops m listed = true → wpSched P ops S Q m a w → S w → wpAnyH P .any ops Q S fuel listed a w := by
  intro m
  induction m with
  | nil =>
    intro fuel listed a w _ hB h _
    exact wpAnyH_done (by simpa [schedOk] using hB) h fuel
  | cons x m ih =>
    intro fuel listed a w hf hB h hS
    obtain ⟨i, b⟩ := x
    obtain ⟨fuel, rfl⟩ : ∃ f, fuel = f + 1 := ⟨fuel - 1, by simp at hf; omega⟩
    have hf' : m.length ≤ fuel := by simpa using hf
    cases b with
    | true =>
      simp only [schedOk, Bool.and_eq_true] at hB
      obtain ⟨⟨hr, hfr⟩, hB'⟩ := hB
      obtain ⟨o, hi, h⟩ := h
      split at h
      · rename_i hw
        obtain ⟨v, hv, hk⟩ := h
        exact wpAnyH_take hi hs hfr hr (fun c a w => hQ c a _ _ w) (Or.inl ⟨hw, hv⟩) hS (ih fuel _ _ w hf' hB' hk hS)
      · rename_i hw
        exact wpAnyH_take hi hs hfr hr (fun c a w => hQ c a _ _ w) (Or.inr ⟨by simpa using hw, rfl⟩) hS (ih fuel _ _ w hf' hB' h hS)
    | false =>
      simp only [schedOk, Bool.and_eq_true] at hB
      obtain ⟨hr, hB'⟩ := hB
      obtain ⟨o, hi, h⟩ := h
      refine wpAnyH_all (rs := [i]) (by simpa using hr) (by simp) fun j hj => ?_
      have hji : j = i := by simpa using hj
      subst hji
      unfold wpOp
      simp only [hi]
      split
      · rename_i hw
        rw [if_pos hw] at h
        exact .inl (Oper.wp_mono (fun a' w' h' => ⟨h'.1, ih fuel _ a' w' hf' hB' h'.2 h'.1⟩) h)
      · rename_i hw
        rw [if_neg hw] at h
        exact ⟨hS, ih fuel _ _ w hf' hB' h hS⟩

theorem wp_region_sched {id : Nat} {a : Act} {w : World} {l : List Oper} (m : List (Nat × Bool)) (hm : P.follows .mixedOrders = true) (hB : (Region.noSelect l.toArray && schedOk l.toArray m (Array.replicate l.toArray.size false)) = true) (hlen : m.length ≤ l.length)
    (hQ : ∀ c a d v w, Q (.panic c) (a.put d v) w → Q (.panic c) a w) (hS : S w.drew) (h : wpSched P l.toArray S Q m a w.drew) : (Code.region id l.toArray true).wp P Q a w := by
  simp only [Bool.and_eq_true] at hB
  obtain ⟨hs, hB⟩ := hB
  exact wp_region_held (S := S) hm (sched_sound hs hQ m l.toArray.size _ a w.drew (by simpa using hlen) hB h hS)
end
end Go.Proofs.YtfngomlknhappaaDoor.BytesW

/-
  A region that draws its order, some of whose operations read and may come up whenever they are ready, while of the others one or two are ready at a time: a tree of schedules. Conditions: in the last statement.
-/
namespace Go.Proofs.YtfngomlknhappaaDoor.BytesW
open Go.RowKit

/-- 'read': it yields one value in every world that meets S. 'step': it comes up alone. 'fork': one of the two. -/
inductive Sch where
  | done : Sch
  | read : Nat → Sch → Sch
  | step : Nat → Sch → Sch
  | fork : Nat → Sch → Nat → Sch → Sch

section
variable {P : Program} {ops : Array Oper} {Q : Exit → Act → World → Prop} {S : World → Prop}

def wpOne (P : Program) (ops : Array Oper) (S : World → Prop) (Q : Exit → Act → World → Prop) (i : Nat) (K : Act → World → Prop) (a : Act) (w : World) : Prop :=
  ∃ o, ops[i]? = some o ∧ if Region.wanted o (yielded ops a.tmps) then o.wp P a w (fun a' w' => S w' ∧ K a' w') Q else K (a.put o.dst undef) w
def wpTree (P : Program) (ops : Array Oper) (S : World → Prop) (Q : Exit → Act → World → Prop) : Sch → Act → World → Prop
  | .done, a, w => Q .normal a w
  | .read i m, a, w => ∃ o, ops[i]? = some o ∧ if Region.wanted o (yielded ops a.tmps) then ∃ v, (∀ w, S w → (execOp a.eval o).run P w = .ok (.value v) w) ∧ wpTree P ops S Q m (a.put o.dst v) w else wpTree P ops S Q m (a.put o.dst undef) w
  | .step i m, a, w => wpOne P ops S Q i (wpTree P ops S Q m) a w
  | .fork i m j n, a, w => wpOne P ops S Q i (wpTree P ops S Q m) a w ∧ wpOne P ops S Q j (wpTree P ops S Q n) a w

theorem tree_done {a : Act} {w : World} (h : Q .normal a w) : wpTree P ops S Q .done a w := h
theorem tree_read {i : Nat} {o : Oper} {m : Sch} {a : Act} {w : World} (hi : ops[i]? = some o)
    (h : ∀ K : Act → Prop, (∀ a, wpTree P ops S Q m a w → K a) → if Region.wanted o (yielded ops a.tmps) then ∃ v, (∀ w, S w → (execOp a.eval o).run P w = .ok (.value v) w) ∧ K (a.put o.dst v) else K (a.put o.dst undef)) : wpTree P ops S Q (.read i m) a w :=
  ⟨o, hi, h _ fun _ h => h⟩
theorem one_of {i : Nat} {o : Oper} {m : Sch} {a : Act} {w : World} (hi : ops[i]? = some o) (hS : S w)
    (h : ∀ K : Act → World → Prop, (∀ a w, S w ∧ wpTree P ops S Q m a w → K a w) → if Region.wanted o (yielded ops a.tmps) then o.wp P a w K Q else ∀ a', a' = a.put o.dst undef → S w → K a' w) : wpOne P ops S Q i (wpTree P ops S Q m) a w := by
  refine ⟨o, hi, ?_⟩
  have h' := h (fun a' w' => S w' ∧ wpTree P ops S Q m a' w') (fun _ _ h => h)
  split
  · rename_i hw; rw [if_pos hw] at h'; exact h'
  · rename_i hw; rw [if_neg hw] at h'; exact (h' _ rfl hS).2
theorem tree_step {i : Nat} {o : Oper} {m : Sch} {a : Act} {w : World} (hi : ops[i]? = some o) (hS : S w)
    (h : ∀ K : Act → World → Prop, (∀ a w, S w ∧ wpTree P ops S Q m a w → K a w) → if Region.wanted o (yielded ops a.tmps) then o.wp P a w K Q else ∀ a', a' = a.put o.dst undef → S w → K a' w) : wpTree P ops S Q (.step i m) a w := one_of hi hS h
theorem tree_fork {i j : Nat} {oi oj : Oper} {m n : Sch} {a : Act} {w : World} (hi : ops[i]? = some oi) (hj : ops[j]? = some oj) (hS : S w)
    (h : ∀ K : Act → World → Prop, (∀ a w, S w ∧ wpTree P ops S Q m a w → K a w) → if Region.wanted oi (yielded ops a.tmps) then oi.wp P a w K Q else ∀ a', a' = a.put oi.dst undef → S w → K a' w)
    (k : ∀ K : Act → World → Prop, (∀ a w, S w ∧ wpTree P ops S Q n a w → K a w) → if Region.wanted oj (yielded ops a.tmps) then oj.wp P a w K Q else ∀ a', a' = a.put oj.dst undef → S w → K a' w) : wpTree P ops S Q (.fork i m j n) a w := ⟨one_of hi hS h, one_of hj hS k⟩

def Sch.depth : Sch → Nat
  | .done => 0
  | .read _ m | .step _ m => m.depth + 1
  | .fork _ m _ n => max m.depth n.depth + 1
def treeOk (ops : Array Oper) : Sch → Array Bool → Bool
  | .done, listed => Region.ready .any ops listed == []
  | .read i m, listed => (Region.ready .any ops listed).contains i && Region.free .any ops listed i && treeOk ops m (listed.setIfInBounds i true)
  | .step i m, listed => Region.ready .any ops listed == [i] && treeOk ops m (listed.setIfInBounds i true)
  | .fork i m j n, listed => Region.ready .any ops listed == [i, j] && treeOk ops m (listed.setIfInBounds i true) && treeOk ops n (listed.setIfInBounds j true)

theorem one_sound {fuel i : Nat} {m : Sch} {listed : Array Bool} {a : Act} {w : World} (ih : ∀ (a : Act) (w : World), wpTree P ops S Q m a w → S w → wpAnyH P .any ops Q S fuel (listed.setIfInBounds i true) a w)
    (h : wpOne P ops S Q i (wpTree P ops S Q m) a w) (hS : S w) : wpOp P ops Q i (fun a' w' => S w' ∧ wpAnyH P .any ops Q S fuel (listed.setIfInBounds i true) a' w') a w := by
  obtain ⟨o, hi, h⟩ := h
  unfold wpOp
  simp only [hi]
  split
  · rename_i hw
    rw [if_pos hw] at h
    exact .inl (Oper.wp_mono (fun a' w' h' => ⟨h'.1, ih a' w' h'.2 h'.1⟩) h)
  · rename_i hw
    rw [if_neg hw] at h
    exact ⟨hS, ih _ w h hS⟩

theorem tree_sound (hs : Region.noSelect ops = true) (hQ : ∀ c a d v w, Q (.panic c) (a.put d v) w → Q (.panic c) a w) :
    ∀ (m : Sch) (fuel : Nat) (listed : Array Bool) (a : Act) (w : World), m.depth ≤ fuel → treeOk ops m listed = true → wpTree P ops S Q m a w → S w → wpAnyH P .any ops Q S fuel listed a w := by
  intro m
  induction m with
  | done =>
    intro fuel listed a w _ hB h _
    exact wpAnyH_done (by simpa [treeOk] using hB) h fuel
  | read i m ih =>
    intro fuel listed a w hf hB h hS
    obtain ⟨fuel, rfl⟩ : ∃ f, fuel = f + 1 := ⟨fuel - 1, by simp [Sch.depth] at hf; omega⟩
    have hf' : m.depth ≤ fuel := by simpa [Sch.depth] using hf
    simp only [treeOk, Bool.and_eq_true] at hB
    obtain ⟨⟨hr, hfr⟩, hB'⟩ := hB
    obtain ⟨o, hi, h⟩ := h
    split at h
    · rename_i hw
      obtain ⟨v, hv, hk⟩ := h
      exact wpAnyH_take hi hs hfr hr (fun c a w => hQ c a _ _ w) (Or.inl ⟨hw, hv⟩) hS (ih fuel _ _ w hf' hB' hk hS)
    · rename_i hw
      exact wpAnyH_take hi hs hfr hr (fun c a w => hQ c a _ _ w) (Or.inr ⟨by simpa using hw, rfl⟩) hS (ih fuel _ _ w hf' hB' h hS)
  | step i m ih =>
    intro fuel listed a w hf hB h hS
    obtain ⟨fuel, rfl⟩ : ∃ f, fuel = f + 1 := ⟨fuel - 1, by simp [Sch.depth] at hf; omega⟩
    have hf' : m.depth ≤ fuel := by simpa [Sch.depth] using hf
    simp only [treeOk, Bool.and_eq_true] at hB
    obtain ⟨hr, hB'⟩ := hB
    refine wpAnyH_all (rs := [i]) (by simpa using hr) (by simp) fun j hj => ?_
    have hji : j = i := by simpa using hj
    subst hji
    exact one_sound (fun a w h hS => ih fuel _ a w hf' hB' h hS) h hS
  | fork i m j n ihm ihn =>
    intro fuel listed a w hf hB h hS
    obtain ⟨fuel, rfl⟩ : ∃ f, fuel = f + 1 := ⟨fuel - 1, by simp [Sch.depth] at hf; omega⟩
    have hf' : m.depth ≤ fuel ∧ n.depth ≤ fuel := by simp [Sch.depth] at hf; omega
    simp only [treeOk, Bool.and_eq_true] at hB
    obtain ⟨⟨hr, hB1⟩, hB2⟩ := hB
    refine wpAnyH_all (rs := [i, j]) (by simpa using hr) (by simp) fun k hk => ?_
    have hk' : k = i ∨ k = j := by simpa using hk
    rcases hk' with rfl | rfl
    · exact one_sound (fun a w h hS => ihm fuel _ a w hf'.1 hB1 h hS) h.1 hS
    · exact one_sound (fun a w h hS => ihn fuel _ a w hf'.2 hB2 h hS) h.2 hS

theorem wp_region_tree {id : Nat} {a : Act} {w : World} {l : List Oper} (m : Sch) (S : World → Prop) (hm : P.follows .mixedOrders = true) (hB : (Region.noSelect l.toArray && treeOk l.toArray m (Array.replicate l.toArray.size false)) = true) (hlen : m.depth ≤ l.length)
    (hQ : ∀ c a d v w, Q (.panic c) (a.put d v) w → Q (.panic c) a w) (hS : S w.drew) (h : wpTree P l.toArray S Q m a w.drew) : (Code.region id l.toArray true).wp P Q a w := by
  simp only [Bool.and_eq_true] at hB
  obtain ⟨hs, hB⟩ := hB
  exact wp_region_held (S := S) hm (tree_sound hs hQ m l.toArray.size _ a w.drew (by simpa using hlen) hB h hS)

/-- One schedule behind another: behind each of its ends. -/
def Sch.graft : Sch → Sch → Sch
  | .done, t => t
  | .read i m, t => .read i (m.graft t)
  | .step i m, t => .step i (m.graft t)
  | .fork i m j n, t => .fork i (m.graft t) j (n.graft t)
/-- Where it goes on: R; else as before. -/
def withN (Q : Exit → Act → World → Prop) (R : Act → World → Prop) : Exit → Act → World → Prop
  | .normal, a, w => R a w
  | e, a, w => Q e a w
theorem one_graft {R : Act → World → Prop} {i : Nat} {K K' : Act → World → Prop} (hK : ∀ a w, K a w → K' a w) {a : Act} {w : World} (h : wpOne P ops S (withN Q R) i K a w) : wpOne P ops S Q i K' a w := by
  obtain ⟨o, ho, h⟩ := h
  refine ⟨o, ho, ?_⟩
  split
  · rename_i hw
    rw [if_pos hw] at h
    unfold Oper.wp at h ⊢
    generalize (execOp a.eval o).run P w = r at *
    cases r with
    | ok x w' =>
      cases x with
      | value v => exact ⟨h.1, hK _ _ h.2⟩
      | skip => exact ⟨h.1, hK _ _ h.2⟩
      | defer d => exact ⟨h.1, hK _ _ h.2⟩
      | enter f args =>
        refine Calls.mono h fun e w'' he => ?_
        cases e with
        | returned v => exact ⟨he.1, hK _ _ he.2⟩
        | panicked c => exact he
        | outgrown => exact he
      | row row args => exact Rows.mono h fun v w'' he => ⟨he.1, hK _ _ he.2⟩
      | _ => exact h.elim
    | halt x w' => cases x <;> first | exact h | exact h.elim
  · rename_i hw
    rw [if_neg hw] at h
    exact hK _ _ h
/-- Each end of the first meets R; from there the second goes on. -/
theorem wp_graft {R : Act → World → Prop} {t : Sch} (hR : ∀ a w, R a w → wpTree P ops S Q t a w) : ∀ (m : Sch) (a : Act) (w : World), wpTree P ops S (withN Q R) m a w → wpTree P ops S Q (m.graft t) a w := by
  intro m
  induction m with
  | done => intro a w h; exact hR a w h
  | read i m ih =>
    intro a w h
    obtain ⟨o, ho, h⟩ := h
    refine ⟨o, ho, ?_⟩
    split
    · rename_i hw
      rw [if_pos hw] at h
      obtain ⟨v, hv, h⟩ := h
      exact ⟨v, hv, ih _ _ h⟩
    · rename_i hw
      rw [if_neg hw] at h
      exact ih _ _ h
  | step i m ih => intro a w h; exact one_graft (fun a w => ih a w) h
  | fork i m j n ihm ihn => intro a w h; exact ⟨one_graft (fun a w => ihm a w) h.1, one_graft (fun a w => ihn a w) h.2⟩
end
end Go.Proofs.YtfngomlknhappaaDoor.BytesW
