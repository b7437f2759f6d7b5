/-
  Several texts in one: Phase, ArrW, ArrX, ArrY, ArrEq, ArrEqB, ArrG, ArrL, Digs. What each holds stands at its head. Conditions: in each statement.
-/
import Derived.Test.YtfngomlknhappaaDoorKb
import Derived.Deep.Quiet
import Derived.Deep.QuietTactic
import Derived.StillTail
import Derived.Laws.OwnMore
import Derived.Deep.MidRow
import Derived.Laws.Tables
import Derived.Laws.Rows
import Derived.Laws.StructEq
import Derived.Laws.CopyRow
import Derived.Laws.CopyOwn

/-
  A region that draws its order, in phases: in each some operations that are quiet in a class of worlds (values, or calls that hand back one value and stay in the class), in whatever order; then one that comes up alone, whatever it does; the class may be chosen anew behind it. No program is named here. Conditions: in the last theorem.
-/
namespace Go.Proofs.YtfngomlknhappaaDoor.Phase
open Go

section
variable {P : Program} {ops : Array Oper} {Q : Exit → Act → World → Prop} {md : Region.Mode}

/-- Operation j waits for i, over however many others. -/
inductive Reach (md : Region.Mode) (ops : Array Oper) : Nat → Nat → Prop
  | one {j : Nat} {o : Oper} {e} (h : ops[j]? = some o) (he : e ∈ o.after) (hb : Region.binds md e = true) : Reach md ops j e.on
  | step {j i : Nat} {o : Oper} {e} (h : ops[j]? = some o) (he : e ∈ o.after) (hb : Region.binds md e = true) (hr : Reach md ops e.on i) : Reach md ops j i

/-- What is listed has all listed that it waited for. -/
def Closed (md : Region.Mode) (ops : Array Oper) (listed : Array Bool) : Prop :=
  ∀ j oj, ops[j]? = some oj → listed.getD j false = true → ∀ e ∈ oj.after, Region.binds md e = true → listed.getD e.on false = true

theorem reach_listed {listed : Array Bool} (hc : Closed md ops listed) {j i : Nat} (h : Reach md ops j i) :
    (∀ o, ops[j]? = some o → ∀ e ∈ o.after, Region.binds md e = true → listed.getD e.on false = true) → listed.getD i false = true := by
  induction h with
  | one h he hb => intro hj; exact hj _ h _ he hb
  | step h he hb _ ih =>
    intro hj
    exact ih fun o' ho' e' he' hb' => hc _ o' ho' (hj _ h _ he hb) e' he' hb'

theorem Closed.set {listed : Array Bool} (hc : Closed md ops listed) {i : Nat} (hi : i ∈ Region.ready md ops listed) : Closed md ops (listed.setIfInBounds i true) := by
  obtain ⟨_, oi, hoi, hall⟩ := mem_ready.1 hi
  intro j oj hj hl e he hb
  by_cases hij : i = j
  · subst hij
    have : oj = oi := Option.some.inj (hj.symm.trans hoi)
    subst this
    exact getD_set_true (hall e he hb)
  · rw [getD_set_ne false hij] at hl
    exact getD_set_true (hc j oj hj hl e he hb)

/-- For each operation the bits of those that it waits for. -/
def maskOf (md : Region.Mode) (acc : List Nat) (o : Oper) : Nat := o.after.toList.foldl (fun m e => if Region.binds md e = true then (m ||| 2 ^ e.on) ||| acc.getD e.on 0 else m) 0
def masks (md : Region.Mode) : List Oper → List Nat → List Nat
  | [], acc => acc
  | o :: l, acc => masks md l (acc ++ [maskOf md acc o])

theorem fold_bits {acc : List Nat} {R : Nat → Prop} : ∀ (l : List _) (m : Nat), (∀ i, m.testBit i = true → R i) →
    (∀ e ∈ l, Region.binds md e = true → R e.on ∧ ∀ i, (acc.getD e.on 0).testBit i = true → R i) →
    ∀ i, (l.foldl (fun m e => if Region.binds md e = true then (m ||| 2 ^ e.on) ||| acc.getD e.on 0 else m) m).testBit i = true → R i := by
  intro l
  induction l with
  | nil => intro m hm _ i h; exact hm i h
  | cons e l ih =>
    intro m hm hl i h
    rw [List.foldl_cons] at h
    refine ih _ ?_ (fun e' he' => hl e' (List.mem_cons_of_mem _ he')) i h
    intro k hk
    split at hk
    · rename_i hb
      obtain ⟨h1, h2⟩ := hl e (List.mem_cons_self ..) hb
      rw [Nat.testBit_or, Nat.testBit_or, Bool.or_eq_true, Bool.or_eq_true] at hk
      rcases hk with (hk | hk) | hk
      · exact hm k hk
      · rw [Nat.testBit_two_pow] at hk
        have : e.on = k := by simpa using hk
        rw [← this]; exact h1
      · exact h2 k hk
    · exact hm k hk

theorem masks_sound : ∀ (l : List Oper) (acc : List Nat), (∀ j, l[j]? = ops[acc.length + j]?) → (∀ j i, (acc.getD j 0).testBit i = true → Reach md ops j i) →
    ∀ j i, ((masks md l acc).getD j 0).testBit i = true → Reach md ops j i := by
  intro l
  induction l with
  | nil => intro acc _ h j i hb; exact h j i hb
  | cons o l ih =>
    intro acc hl h
    refine ih (acc ++ [maskOf md acc o]) (fun j => ?_) (fun j i hb => ?_)
    · have := hl (j + 1)
      simpa [Nat.add_assoc, Nat.add_comm 1 j] using this
    · have h0 : ops[acc.length]? = some o := by simpa using (hl 0).symm
      rcases Nat.lt_trichotomy j acc.length with hj | hj | hj
      · rw [List.getD_eq_getElem?_getD, List.getElem?_append_left hj, ← List.getD_eq_getElem?_getD] at hb
        exact h j i hb
      · subst hj
        rw [List.getD_eq_getElem?_getD, List.getElem?_append_right (Nat.le_refl _)] at hb
        simp only [Nat.sub_self, List.getElem?_cons_zero, Option.getD_some] at hb
        unfold maskOf at hb
        refine fold_bits (md := md) (acc := acc) (R := Reach md ops acc.length) o.after.toList 0 (fun i h => by simp at h) (fun e he hbe => ?_) i hb
        have he' : e ∈ o.after := by simpa using he
        exact ⟨.one h0 he' hbe, fun k hk => .step h0 he' hbe (h _ _ hk)⟩
      · rw [List.getD_eq_getElem?_getD, List.getElem?_eq_none (by simp; omega)] at hb
        simp at hb

/-- All that is not listed and not of the phase waits for each of the phase. -/
def outerOk (M : List Nat) (ops : Array Oper) (ph : List Nat) (listed : Array Bool) : Bool :=
  (List.range ops.size).all fun j => listed.getD j true || ph.contains j || ph.all fun i => (M.getD j 0).testBit i

def Outer (md : Region.Mode) (ops : Array Oper) (ph : List Nat) (listed : Array Bool) : Prop :=
  ∀ j o, ops[j]? = some o → listed.getD j true = false → j ∉ ph → ∀ i ∈ ph, Reach md ops j i

theorem outer_of {M : List Nat} (hM : ∀ j i, (M.getD j 0).testBit i = true → Reach md ops j i) {ph : List Nat} {listed : Array Bool} (h : outerOk M ops ph listed = true) : Outer md ops ph listed := by
  intro j o hj hl hp i hi
  simp only [outerOk, List.all_eq_true, List.mem_range] at h
  have h1 := h j (Array.getElem?_eq_some_iff.1 hj).1
  simp only [hl, Bool.false_or, Bool.or_eq_true, List.contains_iff_mem, hp, false_or, List.all_eq_true] at h1
  exact hM _ _ (h1 i hi)

theorem Outer.set {ph : List Nat} {listed : Array Bool} (h : Outer md ops ph listed) (k : Nat) : Outer md ops ph (listed.setIfInBounds k true) := by
  intro j o hj hl hp
  refine h j o hj ?_ hp
  by_cases hk : k = j
  · subst hk
    rcases Nat.lt_or_ge k listed.size with h' | h'
    · simp [h'] at hl
    · simp at hl
  · rw [getD_set_ne true hk] at hl; exact hl

/-- What is ready while one of the phase is not listed is of the phase. -/
theorem ready_in {ph : List Nat} {listed : Array Bool} (hc : Closed md ops listed) (ho : Outer md ops ph listed) {i : Nat} (hi : i ∈ ph) (hun : listed.getD i true = false) {j : Nat} (hj : j ∈ Region.ready md ops listed) : j ∈ ph := by
  apply Classical.byContradiction
  intro hp
  obtain ⟨hl, oj, hoj, hall⟩ := mem_ready.1 hj
  have := reach_listed hc (ho j oj hoj hl hp i hi) (fun o ho' e he hb => by
    have : o = oj := Option.some.inj (ho'.symm.trans hoj)
    subst this
    exact hall e he hb)
  rw [getD_both hun] at this
  cases this

/-- Whatever order is picked within the phase. -/
def wpPh (P : Program) (md : Region.Mode) (ops : Array Oper) (S : World → Prop) (ph : List Nat) (L : Array Bool → Act → Prop) : Nat → Array Bool → Act → Prop
  | 0, listed, a => L listed a
  | f + 1, listed, a => Region.ready md ops listed ≠ [] ∧ ∀ i ∈ Region.ready md ops listed, i ∈ ph ∧ qOp P ops S i (wpPh P md ops S ph L f (listed.setIfInBounds i true)) a

theorem wpAny_of_ph {S : World → Prop} {ph : List Nat} {g : Nat} {L : Array Bool → Act → Prop} (hL : ∀ listed a w, S w → L listed a → wpAny P md ops Q g listed a w) :
    ∀ (f : Nat) (listed : Array Bool) (a : Act) (w : World), S w → wpPh P md ops S ph L f listed a → wpAny P md ops Q (f + g) listed a w
  | 0, listed, a, w, hS, h => by rw [Nat.zero_add]; exact hL _ _ _ hS h
  | f + 1, listed, a, w, hS, h => by
    rw [show f + 1 + g = (f + g) + 1 by omega]
    exact ⟨fun h0 => absurd h0 h.1, fun i hi => wpOp_of_qOp hS (fun a' w' hw' h' => wpAny_of_ph hL f _ a' w' hw' h') (h.2 i hi).2⟩

theorem wpPh_first {S : World → Prop} {ph : List Nat} {i : Nat} {oi : Oper} {v : Value} {L : Array Bool → Act → Prop} (hi : ops[i]? = some oi) (hsel : ∀ (j : Nat) (o : Oper) cs b, ops[j]? = some o → o.op ≠ .select cs b)
    (hin : i ∈ ph) (hdone : ∀ listed a, L listed a → ∀ j ∈ Region.ready md ops listed, j ∉ ph) :
    ∀ (f : Nat) (listed : Array Bool) (a : Act), Closed md ops listed → Outer md ops ph listed →
      (∀ j oj, ops[j]? = some oj → j ≠ i → listed.getD j true = false → (∀ e ∈ oj.after, Region.binds md e = true → e.on ≠ i) → oi.apart ops oj = true) →
      i ∈ Region.ready md ops listed → YieldsIn P ops S oi v a →
      wpPh P md ops S ph L f (listed.setIfInBounds i true) (a.put oi.dst v) → wpPh P md ops S ph L (f + 1) listed a := by
  intro f
  induction f with
  | zero =>
    intro listed a hc ho _ hr hy H
    have hun := (mem_ready.1 hr).1
    refine ⟨fun h => (by rw [h] at hr; cases hr), fun j hj => ?_⟩
    have hjp := ready_in hc ho hin hun hj
    refine ⟨hjp, ?_⟩
    by_cases hji : j = i
    · subst hji; exact hy.qOp hi H
    · exact absurd hjp (hdone _ _ H j (ready_mono hj hji))
  | succ f ih =>
    intro listed a hc ho hfree hr hy H
    have hun := (mem_ready.1 hr).1
    refine ⟨fun h => (by rw [h] at hr; cases hr), fun j hj => ?_⟩
    have hjp := ready_in hc ho hin hun hj
    refine ⟨hjp, ?_⟩
    by_cases hji : j = i
    · subst hji; exact hy.qOp hi H
    · have h1 := (H.2 j (ready_mono hj hji)).2
      obtain ⟨hjun, oj, hoj, hall⟩ := mem_ready.1 hj
      have hnot : ∀ e ∈ oj.after, Region.binds md e = true → e.on ≠ i := fun e he hb heq => by
        have h1 := hall e he hb
        rw [heq, getD_both hun] at h1
        cases h1
      have h2 := qOp_put hoj (hfree j oj hoj hji hjun hnot) (fun cs b => hsel i oi cs b hi) (fun cs b => hsel j oj cs b hoj) hy h1
      have hfree' : ∀ k ok, ops[k]? = some ok → k ≠ i → (listed.setIfInBounds j true).getD k true = false →
          (∀ e ∈ ok.after, Region.binds md e = true → e.on ≠ i) → oi.apart ops ok = true := fun k ok hk hki hun' hno => by
        refine hfree k ok hk hki ?_ hno
        by_cases hjk : j = k
        · subst hjk; exact hjun
        · rw [getD_set_ne true hjk] at hun'; exact hun'
      refine qOp_mono (fun a' h3 => ih (listed.setIfInBounds j true) a' (hc.set hj) (ho.set j) hfree' (ready_mono hr (Ne.symm hji)) h3.1 ?_) h2
      rw [Array.setIfInBounds_comm _ _ hji]
      exact h3.2

/-- The phase's walk, in the order in which it is written. -/
def wpQs (P : Program) (ops : Array Oper) (S : World → Prop) (R : Act → Prop) : List Nat → Act → Prop
  | [], a => R a
  | i :: l, a => qOp P ops S i (wpQs P ops S R l) a

def lexPh (ops : Array Oper) : List Nat → Array Bool → Option (Array Bool)
  | [], listed => some listed
  | i :: l, listed => if (Region.ready .any ops listed).contains i && Region.free .any ops listed i then lexPh ops l (listed.setIfInBounds i true) else none

theorem ph_lex {S : World → Prop} {ph : List Nat} {R : Act → Prop} {end_ : Array Bool} (hsel : Region.noSelect ops = true) (hend : ∀ j ∈ Region.ready .any ops end_, j ∉ ph) :
    ∀ (l : List Nat) (listed : Array Bool) (a : Act), (∀ i ∈ l, i ∈ ph) → Closed .any ops listed → Outer .any ops ph listed → lexPh ops l listed = some end_ → wpQs P ops S R l a →
      wpPh P .any ops S ph (fun listed' a' => listed' = end_ ∧ R a') l.length listed a ∧ Closed .any ops end_ := by
  intro l
  induction l with
  | nil =>
    intro listed a _ hc _ hl h
    simp only [lexPh, Option.some.injEq] at hl
    subst hl
    exact ⟨⟨rfl, h⟩, hc⟩
  | cons i l ih =>
    intro listed a hin hc ho hl h
    simp only [lexPh] at hl
    split at hl
    · rename_i hcond
      simp only [Bool.and_eq_true] at hcond
      have hr : i ∈ Region.ready .any ops listed := by simpa using hcond.1
      obtain ⟨_, oi, hoi, _⟩ := mem_ready.1 hr
      obtain ⟨v, hy, hK⟩ := yieldsIn_of_qOp hoi h
      obtain ⟨h1, h2⟩ := ih _ _ (fun k hk => hin k (List.mem_cons_of_mem _ hk)) (hc.set hr) (ho.set i) hl hK
      exact ⟨wpPh_first hoi (Region.noSelect_spec hsel) (hin i (List.mem_cons_self ..)) (fun listed' a' hL => by rw [hL.1]; exact hend) l.length listed a hc ho (Region.free_spec hoi hcond.2) hr hy h1, h2⟩
    · cases hl

/-- Operations that yield one value in whatever world, taken first. -/
def wpPu (P : Program) (ops : Array Oper) (R : Act → Prop) : List Nat → Act → Prop
  | [], a => R a
  | i :: l, a => ∃ o, ops[i]? = some o ∧ if Region.wanted o (yielded ops a.tmps) then ∃ v, (∀ w, (execOp a.eval o).run P w = .ok (.value v) w) ∧ wpPu P ops R l (a.put o.dst v) else wpPu P ops R l (a.put o.dst undef)

theorem pu_sound (hs : Region.noSelect ops = true) (hQ : ∀ c a d v w, Q (.panic c) (a.put d v) w → Q (.panic c) a w) {R : Act → Prop} {end_ : Array Bool} {g : Nat} {w : World} (hR : Closed .any ops end_ → ∀ a, R a → wpAny P .any ops Q g end_ a w) :
    ∀ (l : List Nat) (listed : Array Bool) (a : Act), Closed .any ops listed → lexPh ops l listed = some end_ → wpPu P ops R l a → wpAny P .any ops Q (l.length + g) listed a w := by
  intro l
  induction l with
  | nil =>
    intro listed a hc hl h
    simp only [lexPh, Option.some.injEq] at hl
    subst hl
    simpa using hR hc a h
  | cons i l ih =>
    intro listed a hc hl h
    simp only [lexPh] at hl
    split at hl
    · rename_i hcond
      simp only [Bool.and_eq_true] at hcond
      have hr : i ∈ Region.ready .any ops listed := by simpa using hcond.1
      obtain ⟨o, hi, h⟩ := h
      rw [show (i :: l).length + g = (l.length + g) + 1 by simp; omega]
      split at h
      · rename_i hw
        obtain ⟨v, hv, hk⟩ := h
        exact wpAny_take hi hs hcond.2 hcond.1 (fun c a w => hQ c a _ _ w) (Or.inl ⟨hw, hv⟩) (ih _ _ (hc.set hr) hl hk)
      · rename_i hw
        exact wpAny_take hi hs hcond.2 hcond.1 (fun c a w => hQ c a _ _ w) (Or.inr ⟨by simpa using hw, rfl⟩) (ih _ _ (hc.set hr) hl h)
    · cases hl

/-- The walk of all phases: in each first what yields one value in whatever world, then what is quiet, then what comes up alone. -/
def wpG (P : Program) (ops : Array Oper) (Q : Exit → Act → World → Prop) : List (List Nat × List Nat × Option Nat) → (World → Prop) → Act → Prop
  | [], S, a => ∀ w, S w → Q .normal a w
  | (pu, ph, none) :: m, S, a => wpPu P ops (wpQs P ops S (wpG P ops Q m S) ph) pu a
  | (pu, ph, some k) :: m, S, a => wpPu P ops (wpQs P ops S (fun a' => ∀ w, S w → wpOp P ops Q k (fun a'' w' => ∃ S' : World → Prop, S' w' ∧ wpG P ops Q m S' a'') a' w) ph) pu a

def gOk (M : List Nat) (ops : Array Oper) : List (List Nat × List Nat × Option Nat) → Array Bool → Bool
  | [], listed => Region.ready .any ops listed == []
  | (pu, ph, k) :: m, listed0 => match lexPh ops pu listed0 with
    | none => false
    | some listed => outerOk M ops ph listed && match lexPh ops ph listed with
      | none => false
      | some l' => (Region.ready .any ops l').all (fun j => !ph.contains j) && match k with
        | none => gOk M ops m l'
        | some k => Region.ready .any ops l' == [k] && gOk M ops m (l'.setIfInBounds k true)

def fuelOf : List (List Nat × List Nat × Option Nat) → Nat
  | [] => 0
  | (pu, ph, none) :: m => pu.length + (ph.length + fuelOf m)
  | (pu, ph, some _) :: m => pu.length + (ph.length + (fuelOf m + 1))

theorem g_sound {M : List Nat} (hM : ∀ j i, (M.getD j 0).testBit i = true → Reach .any ops j i) (hsel : Region.noSelect ops = true) (hQ : ∀ c a d v w, Q (.panic c) (a.put d v) w → Q (.panic c) a w) :
    ∀ (m : List (List Nat × List Nat × Option Nat)) (S : World → Prop) (listed : Array Bool) (a : Act) (w : World), Closed .any ops listed → gOk M ops m listed = true → wpG P ops Q m S a → S w → wpAny P .any ops Q (fuelOf m) listed a w := by
  intro m
  induction m with
  | nil =>
    intro S listed a w _ hB h hS
    exact ⟨by simpa [gOk] using hB, h w hS⟩
  | cons x m ih =>
    obtain ⟨pu, ph, k⟩ := x
    intro S listed0 a w hc0 hB h hS
    simp only [gOk] at hB
    cases hl0 : lexPh ops pu listed0 with
    | none => rw [hl0] at hB; cases hB
    | some listed =>
      rw [hl0] at hB
      simp only [Bool.and_eq_true] at hB
      obtain ⟨ho, hB⟩ := hB
      cases hl : lexPh ops ph listed with
      | none => rw [hl] at hB; cases hB
      | some l' =>
        rw [hl] at hB
        simp only [Bool.and_eq_true] at hB
        obtain ⟨hend, hB⟩ := hB
        have hend' : ∀ j ∈ Region.ready .any ops l', j ∉ ph := fun j hj => by
          have := List.all_eq_true.1 hend j hj
          simpa using this
        cases k with
        | none =>
          refine pu_sound hsel hQ (fun hc a' h' => ?_) pu listed0 a hc0 hl0 h
          obtain ⟨h1, h2⟩ := ph_lex (S := S) (R := wpG P ops Q m S) hsel hend' ph listed a' (fun _ h => h) hc (outer_of hM ho) hl h'
          exact wpAny_of_ph (fun listed' a' w' hS' hL => by rw [hL.1]; exact ih S l' a' w' h2 hB hL.2 hS') ph.length listed a' w hS h1
        | some k =>
          simp only [Bool.and_eq_true] at hB
          obtain ⟨hr, hB⟩ := hB
          have hr' : Region.ready .any ops l' = [k] := by simpa using hr
          refine pu_sound hsel hQ (fun hc a' h' => ?_) pu listed0 a hc0 hl0 h
          obtain ⟨h1, h2⟩ := ph_lex (S := S) (R := fun a' => ∀ w, S w → wpOp P ops Q k (fun a'' w' => ∃ S' : World → Prop, S' w' ∧ wpG P ops Q m S' a'') a' w) hsel hend' ph listed a' (fun _ h => h) hc (outer_of hM ho) hl h'
          refine wpAny_of_ph (fun listed' a' w' hS' hL => ?_) ph.length listed a' w hS h1
          rw [hL.1]
          refine ⟨fun h0 => (by rw [hr'] at h0; cases h0), fun i hi => ?_⟩
          have hik : i = k := by rw [hr'] at hi; simpa using hi
          subst hik
          exact wpOp_mono (fun a'' w'' h3 => by
            obtain ⟨S', hS'', hg⟩ := h3
            exact ih S' _ a'' w'' (h2.set hi) hB hg hS'') (hL.2 w' hS')

def phasesOk (ops : List Oper) (m : List (List Nat × List Nat × Option Nat)) : Bool :=
  Region.noSelect ops.toArray && fuelOf m == ops.length && gOk (masks .any ops []) ops.toArray m (Array.replicate ops.length false)

/-- A region in phases, from the world behind its draw. -/
theorem wp_region_phases {id : Nat} {a : Act} {w : World} {l : List Oper} (m : List (List Nat × List Nat × Option Nat)) (S : World → Prop) (hm : P.follows .mixedOrders = true) (hB : phasesOk l m = true)
    (hQ : ∀ c a d v w, Q (.panic c) (a.put d v) w → Q (.panic c) a w) (hS : S w.drew)
    (h : wpG P l.toArray Q m S a) : (Code.region id l.toArray true).wp P Q a w := by
  simp only [phasesOk, Bool.and_eq_true] at hB
  obtain ⟨⟨hs, hf⟩, hB⟩ := hB
  have hM := masks_sound (md := .any) (ops := l.toArray) l [] (by simp) (by simp)
  have hc : Closed .any l.toArray (Array.replicate l.length false) := fun j oj _ hl => by rw [getD_replicate_false] at hl; cases hl
  have := g_sound (P := P) (Q := Q) hM hs hQ m S _ a w.drew hc hB h hS
  rw [show fuelOf m = l.toArray.size by simpa using hf] at this
  exact wp_region_any hm (by simpa using this)

/-! ### The steps -/
theorem q_step {S : World → Prop} {R : Act → Prop} {i : Nat} {o : Oper} {l : List Nat} {a : Act} (hi : ops[i]? = some o)
    (h : ∀ K : Act → Prop, (∀ a, wpQs P ops S R l a → K a) → if Region.wanted o (yielded ops a.tmps) then o.quiet P a S K else K (a.put o.dst undef)) : wpQs P ops S R (i :: l) a := by
  unfold wpQs qOp
  simp only [hi]
  exact h _ fun _ h => h
theorem q_nil {S : World → Prop} {R : Act → Prop} {a : Act} (h : R a) : wpQs P ops S R [] a := h
theorem p_step {R : Act → Prop} {i : Nat} {o : Oper} {l : List Nat} {a : Act} (hi : ops[i]? = some o)
    (h : ∀ K : Act → Prop, (∀ a, wpPu P ops R l a → K a) → if Region.wanted o (yielded ops a.tmps) then ∃ v, (∀ w, (execOp a.eval o).run P w = .ok (.value v) w) ∧ K (a.put o.dst v) else K (a.put o.dst undef)) : wpPu P ops R (i :: l) a :=
  ⟨o, hi, h _ fun _ h => h⟩
theorem p_nil {R : Act → Prop} {a : Act} (h : R a) : wpPu P ops R [] a := h
theorem g_quiet {pu ph : List Nat} {m : List (List Nat × List Nat × Option Nat)} {S : World → Prop} {a : Act} (h : wpPu P ops (wpQs P ops S (wpG P ops Q m S) ph) pu a) : wpG P ops Q ((pu, ph, none) :: m) S a := h
theorem q_mono {S : World → Prop} : ∀ (ph : List Nat) (a : Act) {R R' : Act → Prop}, (∀ a, R a → R' a) → wpQs P ops S R ph a → wpQs P ops S R' ph a
  | [], a, _, _, hR, h => hR a h
  | _ :: l, _, _, _, hR, h => qOp_mono (fun a' => q_mono l a' hR) h
theorem p_mono : ∀ (pu : List Nat) (a : Act) {R R' : Act → Prop}, (∀ a, R a → R' a) → wpPu P ops R pu a → wpPu P ops R' pu a
  | [], a, _, _, hR, h => hR a h
  | _ :: l, _, _, _, hR, ⟨o, hi, h⟩ => ⟨o, hi, by
    split at h
    · rename_i hw
      rw [if_pos hw]
      obtain ⟨v, hv, h⟩ := h
      exact ⟨v, hv, p_mono l _ hR h⟩
    · rename_i hw
      rw [if_neg hw]
      exact p_mono l _ hR h⟩
theorem g_alone {pu ph : List Nat} {k : Nat} {o : Oper} {m : List (List Nat × List Nat × Option Nat)} {S : World → Prop} {a : Act} (hk : ops[k]? = some o)
    (h : wpPu P ops (wpQs P ops S (fun a' => ∀ w, S w → ∀ K : Act → World → Prop, (∀ a w, (∃ S' : World → Prop, S' w ∧ wpG P ops Q m S' a) → K a w) → if Region.wanted o (yielded ops a'.tmps) then o.wp P a' w K Q else K (a'.put o.dst undef) w) ph) pu a) :
    wpG P ops Q ((pu, ph, some k) :: m) S a := by
  refine p_mono pu a (fun a1 => q_mono ph a1 (fun a' h' w hS => ?_)) h
  unfold wpOp
  simp only [hk]
  have h'' := h' w hS _ (fun _ _ h => h)
  split
  · rename_i hw; rw [if_pos hw] at h''; exact .inl h''
  · rename_i hw; rw [if_neg hw] at h''; exact h''
theorem g_nil {S : World → Prop} {a : Act} (h : ∀ w, S w → Q .normal a w) : wpG P ops Q [] S a := h
end
end Go.Proofs.YtfngomlknhappaaDoor.Phase

/-
  Words for an array variable's block: its cells, what a store and a fresh block make of it, what it reads as whole. No program is named here. Conditions: in each statement.
-/
namespace Go.Proofs.YtfngomlknhappaaDoor.ArrW
open Go.RowKit BytesW

/-- Block g is a variable of type t, not marked, that holds the cells xs. -/
def Arr (w : World) (g : Nat) (t : TypeId) (xs : List Value) : Prop := w.heap[g]? = some (.cells xs.toArray t (0, 0))

section
variable {w w' : World} {g : Nat} {t : TypeId} {xs : List Value}
theorem Arr.lt (h : Arr w g t xs) : g < w.heap.size := (Array.getElem?_eq_some_iff.1 h).1
theorem Arr.cell (h : Arr w g t xs) (k : Nat) : w.cell? ⟨g, k, none⟩ = xs[k]? := by
  have := cell_of_row w g k xs.toArray t (0, 0) h
  simpa using this
theorem Arr.cell' (h : Arr w g t xs) (k : Nat) (hk : k < xs.length) : w.cell? ⟨g, k, none⟩ = some xs[k] := by rw [h.cell, List.getElem?_eq_getElem hk]
theorem Arr.frozen (h : Arr w g t xs) (k : Nat) : w.frozen? ⟨g, k, none⟩ = false := frozen_of_row w g k xs.toArray t h
theorem Arr.set (h : Arr w g t xs) (k : Nat) (u : Value) : Arr (w.setCell ⟨g, k, none⟩ u) g t (xs.set k u) := by
  have := heap_setCell_same w g k xs.toArray t u h
  unfold Arr
  rw [this]
  simp
theorem Arr.other (h : Arr w g t xs) (p : Addr) (u : Value) (hp : p.block ≠ g) : Arr (w.setCell p u) g t xs := by
  unfold Arr
  rw [heap_setCell_other w p g u (fun e => hp e.symm)]
  exact h
theorem Arr.drew (h : Arr w g t xs) : Arr w.drew g t xs := h
theorem Arr.drewN (h : Arr w g t xs) (n : Nat) : Arr (w.drewN n) g t xs := h
theorem Arr.new (w : World) (cs : Array Value) (t : TypeId) : Arr (w.alloc (.cells cs t)) w.heap.size t cs.toList := by
  unfold Arr
  rw [heap_alloc_new]
theorem Arr.alloc (h : Arr w g t xs) (o : Obj) : Arr (w.alloc o) g t xs := by
  unfold Arr
  rw [World.alloc, Array.getElem?_push_lt h.lt]
  have := h
  unfold Arr at this
  rw [Array.getElem?_eq_getElem h.lt] at this
  exact this
theorem Arr.below {B : Nat} (h : Arr w g t xs) (hb : Below B w w') (hg : g < B) : Arr w' g t xs := (hb.block g hg).trans h
end
end Go.Proofs.YtfngomlknhappaaDoor.ArrW

/-
  Words for a whole array variable at once: its load, its store, its return; as a run and as an operation in a walk. Conditions: in each statement.
-/
namespace Go.Proofs.YtfngomlknhappaaDoor.ArrW
open Go.RowKit BytesW

section
variable {P : Program} {w w' : World} {g : Nat} {t : TypeId} {xs : List Value}

theorem Arr.row (h : Arr w g t xs) (ys : List Value) : Arr (w.setRow g ys.toArray) g t ys := setRow_heap w g _ _ _ _ h
theorem Arr.rowOther (h : Arr w g t xs) (k : Nat) (ys : Array Value) (hk : g ≠ k) : Arr (w.setRow k ys) g t xs := (setRow_other w k g ys hk).trans h
theorem grown_row (w : World) (g : Nat) (ys : Array Value) : w.grownBy (w.setRow g ys) (some g) :=
  ⟨rfl, rfl, rfl, by simp, fun k _ hne => setRow_other w g k ys (fun e => hne (by rw [e]))⟩
theorem below_row {B : Nat} {a : World} (h : Below B a w) (hg : B ≤ g) (ys : Array Value) : Below B a (w.setRow g ys) :=
  ⟨h.os, h.tape, h.output, by have := h.size; simpa using this, fun k hk => (setRow_other w g k ys (by omega)).trans (h.block k hk)⟩

/-- The whole variable, read. -/
theorem Arr.load (h : Arr w g t xs) (ty : TypeId) {d : TypeDesc} (hu : P.underlying ty = some d) (hd : (match d with | .struct _ | .array _ _ => true | _ => false) = true) {n : Nat} (hi : (P.info? ty).map (·.size) = some n) (hn : xs.length = n) :
    (Instr.loadAt ty (.pointer (some ⟨g, 0, none⟩))).run P w = .ok (.agg xs.toArray) w := by
  simp only [Instr.loadAt, Instr.sureAddr, Sem.run_bind, Sem.run_pure, Result.andThen_ok]
  exact run_loadVar_row w g t ty xs.toArray (0, 0) d h hu hd (by rw [hi]; simp [hn])

/-- .. and written. -/
theorem Arr.store (h : Arr w g t xs) (ty : TypeId) (ys : List Value) {n : Nat} (hi : (P.info? ty).map (·.size) = some n) (hn : xs.length = n) (hm : ys.length = n) (h1 : ∀ v ∈ ys, v.oneCell' = true) :
    (Instr.storeAt ty (.pointer (some ⟨g, 0, none⟩)) (.agg ys.toArray)).run P w = .ok () (w.setRow g ys.toArray) := by
  simp only [Instr.storeAt, Instr.sureAddr, Sem.run_bind, Sem.run_pure, Result.andThen_ok]
  exact run_storeVar_row w g t ty xs.toArray ys.toArray h (by rw [hi]; simp [hm]) (by simp [hn, hm]) (Array.all_eq_true_iff_forall_mem.2 (fun v hv => h1 v (by simpa using hv)))

/-- The operations, in a walk. -/
theorem Arr.loadL {ops : Array Oper} {rest : List Oper} {o : Oper} {a : Act} {Q : Exit → Act → World → Prop} (h : Arr w g t xs) (hgd : o.guard = none) (ty : TypeId) (x : Operand) (ho : o.op = .load ty x)
    (hx : a.eval x = .pointer (some ⟨g, 0, none⟩)) {d : TypeDesc} (hu : P.underlying ty = some d) (hd : (match d with | .struct _ | .array _ _ => true | _ => false) = true) {n : Nat} (hi : (P.info? ty).map (·.size) = some n) (hn : xs.length = n)
    (k : wpList P ops Q rest (a.put o.dst (.agg xs.toArray)) w) : wpList P ops Q (o :: rest) a w :=
  wpList_load_row hgd ty x ho g hx t xs.toArray (0, 0) d h hu hd (by rw [hi]; simp [hn]) k
theorem Arr.storeL {ops : Array Oper} {rest : List Oper} {o : Oper} {a : Act} {Q : Exit → Act → World → Prop} (h : Arr w g t xs) (hgd : o.guard = none) (ty : TypeId) (x y : Operand) (ho : o.op = .store ty x y)
    (hx : a.eval x = .pointer (some ⟨g, 0, none⟩)) (ys : List Value) (hy : a.eval y = .agg ys.toArray) {n : Nat} (hi : (P.info? ty).map (·.size) = some n) (hn : xs.length = n) (hm : ys.length = n) (h1 : ∀ v ∈ ys, v.oneCell' = true)
    (k : wpList P ops Q rest (a.put o.dst undef) (w.setRow g ys.toArray)) : wpList P ops Q (o :: rest) a w :=
  wpList_store_row hgd ty x y ho g ys.toArray hx hy t xs.toArray h (by rw [hi]; simp [hm]) (by simp [hn, hm]) (Array.all_eq_true_iff_forall_mem.2 (fun v hv => h1 v (by simpa using hv))) k
/-- The return of a result that lies in a variable. -/
theorem Arr.ret (h : Arr w g t xs) {fn : Func} {p : Tmp} {ty : TypeId} (hf : fn.results = #[.cell p ty]) (tmps : Array Value) (hp : tmps.getD p undef = .pointer (some ⟨g, 0, none⟩))
    {d : TypeDesc} (hu : P.underlying ty = some d) (hd : (match d with | .struct _ | .array _ _ => true | _ => false) = true) {n : Nat} (hi : (P.info? ty).map (·.size) = some n) (hn : xs.length = n) :
    (results fn tmps).run P w = .ok (.agg xs.toArray) w :=
  results_cell_row hf tmps w g t xs.toArray (0, 0) d hp h hu hd (by rw [hi]; simp [hn])

/-- An element of an array's value, of one cell. -/
theorem run_index_arr (w : World) (t e : TypeId) (n : Nat) (cs : Array Value) (k : Nat) (v : Value) (d : TypeDesc) (h : P.underlying t = some (.array n e)) (he : P.underlying e = some d) (hd : (match d with | .struct _ | .array _ _ => false | _ => true) = true) (hi : (P.info? e).map (·.size) = some 1)
    (hk : k < n) (hv : cs[k]? = some v) : (Instr.index t (.agg cs) (.int .i64 (k : Int))).run P w = .ok v w := by
  have hn : (0 : Int) ≤ (k : Int) ∧ (k : Int) < (n : Int) := by omega
  have hagg : (isAgg e).run P w = .ok false w := by
    unfold isAgg
    rw [Sem.run_bind, run_underlying he w]
    cases d <;> simp_all
  cases hq : P.info? e with
  | none => simp [hq] at hi
  | some i =>
    have hs : i.size = 1 := by simpa [hq] using hi
    simp [Instr.index, run_underlying h, asIntOf, hn, sizeOf, typeInfo, hq, hs, part, Sem.run_bind, hagg, hv]
    omega
end

theorem bytes_one (l : List UInt8) : ∀ v ∈ Lib.byteCells l, v.oneCell' = true := by
  intro v hv
  simp only [Lib.byteCells, List.mem_map] at hv
  obtain ⟨x, _, rfl⟩ := hv
  rfl
end Go.Proofs.YtfngomlknhappaaDoor.ArrW

/-
  More words for a whole array variable: its load and store in a region that draws its order; the return of one that lies in a variable beside a plain one. No program is named here. Conditions: in each statement.
-/
namespace Go.Proofs.YtfngomlknhappaaDoor.ArrW
open Go.RowKit BytesW

section
variable {P : Program} {w w' : World} {g : Nat} {t : TypeId} {xs : List Value}

theorem Arr.loadQ {S : World → Prop} {K : Act → Prop} {o : Oper} {a : Act} (hS : ∀ W, S W → Arr W g t xs) (ty : TypeId) (x : Operand) (ho : o.op = .load ty x)
    (hx : a.eval x = .pointer (some ⟨g, 0, none⟩)) {d : TypeDesc} (hu : P.underlying ty = some d) (hd : (match d with | .struct _ | .array _ _ => true | _ => false) = true) {n : Nat} (hi : (P.info? ty).map (·.size) = some n) (hn : xs.length = n)
    (h : K (a.put o.dst (.agg xs.toArray))) : o.quiet P a S K := by
  refine ⟨_, fun W hW => ?_, h⟩
  unfold Oper.quietAt execOp
  simp only [ho, hx, Sem.run_bind, Arr.load (hS W hW) ty hu hd hi hn, Sem.run_pure, Result.andThen_ok]
  exact ⟨rfl, rfl⟩
theorem Arr.loadO {K : Act → World → Prop} {Q : Exit → Act → World → Prop} {o : Oper} {a : Act} (h : Arr w g t xs) (ty : TypeId) (x : Operand) (ho : o.op = .load ty x)
    (hx : a.eval x = .pointer (some ⟨g, 0, none⟩)) {d : TypeDesc} (hu : P.underlying ty = some d) (hd : (match d with | .struct _ | .array _ _ => true | _ => false) = true) {n : Nat} (hi : (P.info? ty).map (·.size) = some n) (hn : xs.length = n)
    (k : K (a.put o.dst (.agg xs.toArray)) w) : o.wp P a w K Q :=
  wp_load_row ty x ho g hx t xs.toArray (0, 0) d h hu hd (by rw [hi]; simp [hn]) k
theorem Arr.storeO {K : Act → World → Prop} {Q : Exit → Act → World → Prop} {o : Oper} {a : Act} (h : Arr w g t xs) (ty : TypeId) (x y : Operand) (ho : o.op = .store ty x y)
    (hx : a.eval x = .pointer (some ⟨g, 0, none⟩)) (ys : List Value) (hy : a.eval y = .agg ys.toArray) {n : Nat} (hi : (P.info? ty).map (·.size) = some n) (hn : xs.length = n) (hm : ys.length = n) (h1 : ∀ v ∈ ys, v.oneCell' = true)
    (k : K (a.put o.dst undef) (w.setRow g ys.toArray)) : o.wp P a w K Q :=
  wp_store_row ty x y ho g ys.toArray hx hy t xs.toArray h (by rw [hi]; simp [hm]) (by simp [hn, hm]) (Array.all_eq_true_iff_forall_mem.2 (fun v hv => h1 v (by simpa using hv))) k
/-- The return of a result that lies in a variable, and of a plain one. -/
theorem Arr.ret2 (h : Arr w g t xs) {fn : Func} {p s : Tmp} {ty : TypeId} (hf : fn.results = #[.cell p ty, .tmp s]) (tmps : Array Value) (hp : tmps.getD p undef = .pointer (some ⟨g, 0, none⟩)) {v : Value} (hv : tmps.getD s undef = v)
    {d : TypeDesc} (hu : P.underlying ty = some d) (hd : (match d with | .struct _ | .array _ _ => true | _ => false) = true) {n : Nat} (hi : (P.info? ty).map (·.size) = some n) (hn : xs.length = n) :
    (results fn tmps).run P w = .ok (.tuple #[.agg xs.toArray, v]) w := by
  have hp' : tmps[p]?.getD undef = .pointer (some ⟨g, 0, none⟩) := by simpa using hp
  have hv' : tmps[s]?.getD undef = v := by simpa using hv
  simp [results, hf, hp', hv', asAddr, run_loadVar_row w g t ty xs.toArray (0, 0) d h hu hd (by rw [hi]; simp [hn])]
/-- The first cells of a variable, read as an array or a struct of their own. -/
theorem Arr.loadPart {zs : List Value} (h : Arr w g t (xs ++ zs)) (ty : TypeId) {d : TypeDesc} (hu : P.underlying ty = some d) (hd : (match d with | .struct _ | .array _ _ => true | _ => false) = true) {n : Nat} (hi : (P.info? ty).map (·.size) = some n) (hn : xs.length = n) :
    (Instr.loadAt ty (.pointer (some ⟨g, 0, none⟩))).run P w = .ok (.agg xs.toArray) w := by
  have hl : (loadCells ⟨g, 0, none⟩ xs.length).run P w = .ok xs.toArray w :=
    run_loadCells_list (P := P) w ⟨g, 0, none⟩ xs (fun j v hv => by
      have hadd : (⟨g, 0, none⟩ : Addr).add j = ⟨g, j, none⟩ := by unfold Addr.add; split <;> simp_all
      rw [hadd, Arr.cell h j]
      have hj : j < xs.length := (List.getElem?_eq_some_iff.1 hv).1
      rw [List.getElem?_append_left hj]
      exact hv)
  cases hq : P.info? ty with
  | none => simp [hq] at hi
  | some i =>
    have hs : i.size = xs.length := by rw [hn]; simpa [hq] using hi
    have hagg : (isAgg ty).run P w = .ok true w := by
      unfold isAgg
      rw [Sem.run_bind, run_underlying hu w]
      cases d <;> simp_all
    simp only [Instr.loadAt, Instr.sureAddr, Sem.run_bind, Sem.run_pure, Result.andThen_ok]
    simp [loadVar, Sem.run_bind, hagg, sizeOf, typeInfo, hq, hs, hl]
theorem Arr.loadPartL {zs : List Value} {ops : Array Oper} {rest : List Oper} {o : Oper} {a : Act} {Q : Exit → Act → World → Prop} (h : Arr w g t (xs ++ zs)) (hgd : o.guard = none) (ty : TypeId) (x : Operand) (ho : o.op = .load ty x)
    (hx : a.eval x = .pointer (some ⟨g, 0, none⟩)) {d : TypeDesc} (hu : P.underlying ty = some d) (hd : (match d with | .struct _ | .array _ _ => true | _ => false) = true) {n : Nat} (hi : (P.info? ty).map (·.size) = some n) (hn : xs.length = n)
    (k : wpList P ops Q rest (a.put o.dst (.agg xs.toArray)) w) : wpList P ops Q (o :: rest) a w := by
  refine wpList_plain hgd fun K hK => ?_
  unfold Oper.wp execOp
  simp only [ho, hx, Sem.run_bind, Arr.loadPart h ty hu hd hi hn, Sem.run_pure, Result.andThen_ok]
  exact hK _ _ k
theorem Arr.loadPartE {zs : List Value} {o : Oper} {a : Act} (h : Arr w g t (xs ++ zs)) (ty : TypeId) (x : Operand) (ho : o.op = .load ty x)
    (hx : a.eval x = .pointer (some ⟨g, 0, none⟩)) {d : TypeDesc} (hu : P.underlying ty = some d) (hd : (match d with | .struct _ | .array _ _ => true | _ => false) = true) {n : Nat} (hi : (P.info? ty).map (·.size) = some n) (hn : xs.length = n) :
    (execOp a.eval o).run P w = .ok (.value (.agg xs.toArray)) w := by
  unfold execOp
  simp only [ho, hx, Sem.run_bind, Arr.loadPart h ty hu hd hi hn, Sem.run_pure, Result.andThen_ok]
theorem Arr.loadPartQ {zs : List Value} {S : World → Prop} {K : Act → Prop} {o : Oper} {a : Act} (hS : ∀ W, S W → Arr W g t (xs ++ zs)) (ty : TypeId) (x : Operand) (ho : o.op = .load ty x)
    (hx : a.eval x = .pointer (some ⟨g, 0, none⟩)) {d : TypeDesc} (hu : P.underlying ty = some d) (hd : (match d with | .struct _ | .array _ _ => true | _ => false) = true) {n : Nat} (hi : (P.info? ty).map (·.size) = some n) (hn : xs.length = n)
    (h : K (a.put o.dst (.agg xs.toArray))) : o.quiet P a S K := by
  refine ⟨_, fun W hW => ?_, h⟩
  unfold Oper.quietAt execOp
  simp only [ho, hx, Sem.run_bind, Arr.loadPart (hS W hW) ty hu hd hi hn, Sem.run_pure, Result.andThen_ok]
  exact ⟨rfl, rfl⟩
end
/-- The steps of a region in phases, behind the test whether the operation is wanted. -/
theorem want {p : Prop} [Decidable p] {A B : Prop} (h : p) (k : A) : if p then A else B := by rw [if_pos h]; exact k
end Go.Proofs.YtfngomlknhappaaDoor.ArrW

/-
  Two arrays of whole numbers that hold the same are equal. No program is named here. Conditions: in each statement.
-/
namespace Go.Proofs.YtfngomlknhappaaDoor.ArrW
open Go.RowKit BytesW

section
variable {P : Program}

theorem run_part_int (w : World) (e : TypeId) (xs : Array Value) (i : Nat) (k : IntKind) (a : Int) (he : P.underlying e = some (.int k)) (hx : xs[i]? = some (.int k a)) : (part e xs i).run P w = .ok (.int k a) w := by
  have hagg : (isAgg e).run P w = .ok false w := by
    unfold isAgg
    rw [Sem.run_bind, run_underlying he w]
    rfl
  unfold part
  simp [Sem.run_bind, hagg, hx]

theorem run_eq_arr (w : World) (d : Nat) (t e : TypeId) (n : Nat) (xs ys : Array Value) (k : IntKind) (ht : P.underlying t = some (.array n e)) (he : P.underlying e = some (.int k)) (hi : (P.info? e).map (·.size) = some 1)
    (hx : ∀ i, i < n → ∃ a, xs[i]? = some (.int k a) ∧ ys[i]? = some (.int k a)) : (Op.equalIn (d + 2) t (.agg xs) (.agg ys)).run P w = .ok true w := by
  have hs : (sizeOf e).run P w = .ok 1 w := by
    cases hq : P.info? e with
    | none => simp [hq] at hi
    | some i =>
      have hs : i.size = 1 := by simpa [hq] using hi
      simp [sizeOf, typeInfo, hq, hs]
  unfold Op.equalIn
  simp only [Sem.run_bind, run_underlying ht, Result.andThen_ok, hs, Nat.mul_one]
  have key : ∀ (l : List Nat), (∀ i ∈ l, i < n) → Sem.run P (forIn l ((none : Option Bool), ()) fun i __s => do
            let __do_lift ← part e xs i
            let __do_lift_1 ← part e ys i
            let __do_lift ← Op.equalIn (d + 1) e __do_lift __do_lift_1
            if (!__do_lift) = true then pure (ForInStep.done (some false, ())) else pure (ForInStep.yield (none, ()))) w = .ok (none, ()) w := by
    intro l
    induction l with
    | nil => intro _; simp
    | cons i l ih =>
      intro hl
      obtain ⟨a, h1, h2⟩ := hx i (hl i (List.mem_cons_self ..))
      have ih' := ih (fun j hj => hl j (List.mem_cons_of_mem _ hj))
      simp only [List.forIn_cons, Sem.run_bind, run_part_int w e xs i k a he h1, run_part_int w e ys i k a he h2, Result.andThen_ok, run_equalIn_int w d e k k a a he, beq_self_eq_true, Bool.not_true, Bool.false_eq_true, if_false, Sem.run_pure]
      exact ih'
  have hr := key (List.range' 0 n) (fun i hi => by simp [List.mem_range'] at hi; omega)
  have hf : (forIn [:n] ((none : Option Bool), ()) fun i __s => (do
            let __do_lift ← part e xs i
            let __do_lift_1 ← part e ys i
            let __do_lift ← Op.equalIn (d + 1) e __do_lift __do_lift_1
            if (!__do_lift) = true then pure (ForInStep.done (some false, ())) else pure (ForInStep.yield (none, ())) : Sem (ForInStep (Option Bool × Unit)))) = forIn (List.range' 0 n) ((none : Option Bool), ()) fun i __s => (do
            let __do_lift ← part e xs i
            let __do_lift_1 ← part e ys i
            let __do_lift ← Op.equalIn (d + 1) e __do_lift __do_lift_1
            if (!__do_lift) = true then pure (ForInStep.done (some false, ())) else pure (ForInStep.yield (none, ()))) := by
    simp [Std.Legacy.Range.forIn_eq_forIn_range', Std.Legacy.Range.size]
  rw [hf, hr]
  rfl

/-- '==' of two arrays of whole numbers. -/
theorem run_eql_arr (w : World) (t e : TypeId) (n : Nat) (xs ys : Array Value) (k : IntKind) (ht : P.underlying t = some (.array n e)) (he : P.underlying e = some (.int k)) (hi : (P.info? e).map (·.size) = some 1)
    (hx : ∀ i, i < n → ∃ a, xs[i]? = some (.int k a) ∧ ys[i]? = some (.int k a)) : (binOp .eql t (.agg xs) (.agg ys)).run P w = .ok (.bool true) w := by
  rw [run_eql_struct, run_eq_arr w 9998 t e n xs ys k ht he hi hx]
  rfl

/-- A store into the first cells of a variable. -/
theorem Arr.storePart {w : World} {g : Nat} {t : TypeId} {xs zs : List Value} (h : Arr w g t (xs ++ zs)) (ty : TypeId) (ys : List Value) {n : Nat} (hi : (P.info? ty).map (·.size) = some n) (hn : xs.length = n) (hm : ys.length = n) (h1 : ∀ v ∈ ys, v.oneCell' = true) :
    (Instr.storeAt ty (.pointer (some ⟨g, 0, none⟩)) (.agg ys.toArray)).run P w = .ok () (w.setRow g (ys ++ zs).toArray) := by
  have hst := run_storeCells_at P g 0 t ys 0 (xs ++ zs).toArray w h (by simp; omega) h1
  have e : ((xs ++ zs).toArray.toList.take (0 + 0) ++ ys ++ (xs ++ zs).toArray.toList.drop (0 + 0 + ys.length)) = ys ++ zs := by
    simp only [Nat.add_zero, Nat.zero_add, List.take_zero, List.nil_append]
    rw [show ys.length = xs.length by omega, List.drop_left]
  rw [e] at hst
  cases hq : P.info? ty with
  | none => simp [hq] at hi
  | some i =>
    have hs : i.size = ys.length := by rw [hm]; simpa [hq] using hi
    simp only [Instr.storeAt, Instr.sureAddr, Sem.run_bind, Sem.run_pure, Result.andThen_ok]
    simp [storeVar, sizeOf, typeInfo, hq, hs, Value.cells, hst]
theorem Arr.storePartO {w : World} {g : Nat} {t : TypeId} {xs zs : List Value} {K : Act → World → Prop} {Q : Exit → Act → World → Prop} {o : Oper} {a : Act} (h : Arr w g t (xs ++ zs)) (ty : TypeId) (x y : Operand) (ho : o.op = .store ty x y)
    (hx : a.eval x = .pointer (some ⟨g, 0, none⟩)) (ys : List Value) (hy : a.eval y = .agg ys.toArray) {n : Nat} (hi : (P.info? ty).map (·.size) = some n) (hn : xs.length = n) (hm : ys.length = n) (h1 : ∀ v ∈ ys, v.oneCell' = true)
    (k : K (a.put o.dst undef) (w.setRow g (ys ++ zs).toArray)) : o.wp P a w K Q := by
  unfold Oper.wp execOp
  simp only [ho, hx, hy, Sem.run_bind, Arr.storePart h ty ys hi hn hm h1, Sem.run_pure, Result.andThen_ok]
  exact k
end
end Go.Proofs.YtfngomlknhappaaDoor.ArrW

/-
  '==' of two arrays of whole numbers, whatever they hold. No program is named here but in the last theorem. Conditions: in each statement.
-/
namespace Go.Proofs.YtfngomlknhappaaDoor.ArrW
open Go.RowKit BytesW

section
variable {P : Program}

theorem run_eqb_arr (w : World) (d : Nat) (t e : TypeId) (n : Nat) (xs ys : Array Value) (k : IntKind) (f g : Nat → Int) (ht : P.underlying t = some (.array n e)) (he : P.underlying e = some (.int k)) (hi : (P.info? e).map (·.size) = some 1)
    (hx : ∀ i, i < n → xs[i]? = some (.int k (f i)) ∧ ys[i]? = some (.int k (g i))) : (Op.equalIn (d + 2) t (.agg xs) (.agg ys)).run P w = .ok ((List.range' 0 n).all fun i => f i == g i) w := by
  have hs : (sizeOf e).run P w = .ok 1 w := by
    cases hq : P.info? e with
    | none => simp [hq] at hi
    | some i =>
      have hs : i.size = 1 := by simpa [hq] using hi
      simp [sizeOf, typeInfo, hq, hs]
  unfold Op.equalIn
  simp only [Sem.run_bind, run_underlying ht, Result.andThen_ok, hs, Nat.mul_one]
  have key : ∀ (l : List Nat), (∀ i ∈ l, i < n) → Sem.run P (forIn l ((none : Option Bool), ()) fun i __s => do
            let __do_lift ← part e xs i
            let __do_lift_1 ← part e ys i
            let __do_lift ← Op.equalIn (d + 1) e __do_lift __do_lift_1
            if (!__do_lift) = true then pure (ForInStep.done (some false, ())) else pure (ForInStep.yield (none, ()))) w = .ok (if (l.all fun i => f i == g i) = true then none else some false, ()) w := by
    intro l
    induction l with
    | nil => intro _; simp
    | cons i l ih =>
      intro hl
      obtain ⟨h1, h2⟩ := hx i (hl i (List.mem_cons_self ..))
      have ih' := ih (fun j hj => hl j (List.mem_cons_of_mem _ hj))
      by_cases hfg : f i = g i
      · have hb : (f i == g i) = true := by simp [hfg]
        simp only [List.forIn_cons, Sem.run_bind, run_part_int w e xs i k _ he h1, run_part_int w e ys i k _ he h2, Result.andThen_ok, run_equalIn_int w d e k k _ _ he, hb, Bool.not_true, Bool.false_eq_true, if_false, Sem.run_pure, List.all_cons, Bool.true_and]
        exact ih'
      · have hb : (f i == g i) = false := by simp [hfg]
        simp only [List.forIn_cons, Sem.run_bind, run_part_int w e xs i k _ he h1, run_part_int w e ys i k _ he h2, Result.andThen_ok, run_equalIn_int w d e k k _ _ he, hb, Bool.not_false, if_true, Sem.run_pure, List.all_cons, Bool.false_and, Bool.false_eq_true, if_false]
  have hr := key (List.range' 0 n) (fun i hi => by simp [List.mem_range'] at hi; omega)
  have hf : (forIn [:n] ((none : Option Bool), ()) fun i __s => (do
            let __do_lift ← part e xs i
            let __do_lift_1 ← part e ys i
            let __do_lift ← Op.equalIn (d + 1) e __do_lift __do_lift_1
            if (!__do_lift) = true then pure (ForInStep.done (some false, ())) else pure (ForInStep.yield (none, ())) : Sem (ForInStep (Option Bool × Unit)))) = forIn (List.range' 0 n) ((none : Option Bool), ()) fun i __s => (do
            let __do_lift ← part e xs i
            let __do_lift_1 ← part e ys i
            let __do_lift ← Op.equalIn (d + 1) e __do_lift __do_lift_1
            if (!__do_lift) = true then pure (ForInStep.done (some false, ())) else pure (ForInStep.yield (none, ()))) := by
    simp [Std.Legacy.Range.forIn_eq_forIn_range', Std.Legacy.Range.size]
  rw [hf, hr]
  cases hq : ((List.range' 0 n).all fun i => f i == g i) with
  | true => rfl
  | false => rfl

/-- '==' of two arrays of bytes. -/
theorem run_eqb_bytes (w : World) (t e : TypeId) (n : Nat) (D E : List UInt8) (ht : P.underlying t = some (.array n e)) (he : P.underlying e = some (.int .u8)) (hi : (P.info? e).map (·.size) = some 1) (hD : D.length = n) (hE : E.length = n) :
    (Op.equalIn 10000 t (.agg (Lib.byteCells D).toArray) (.agg (Lib.byteCells E).toArray)).run P w = .ok (decide (D = E)) w := by
  have cell : ∀ (L : List UInt8), L.length = n → ∀ i, i < n → (Lib.byteCells L).toArray[i]? = some (.int .u8 ((L.getD i 0).toNat : Int)) := by
    intro L hL i hi
    simp only [List.getElem?_toArray, Lib.byteCells, List.getElem?_map, List.getElem?_eq_getElem (show i < L.length by omega), List.getD_eq_getElem?_getD]
    rfl
  have h := run_eqb_arr w 9998 t e n (Lib.byteCells D).toArray (Lib.byteCells E).toArray .u8 (fun i => ((D.getD i 0).toNat : Int)) (fun i => ((E.getD i 0).toNat : Int)) ht he hi (fun i hi => ⟨cell D hD i hi, cell E hE i hi⟩)
  rw [show ((List.range' 0 n).all fun i => ((D.getD i 0).toNat : Int) == ((E.getD i 0).toNat : Int)) = decide (D = E) from ?_] at h
  · exact h
  · by_cases hDE : D = E
    · subst hDE
      simp
    · rw [decide_eq_false hDE, Bool.eq_false_iff]
      intro ha
      apply hDE
      rw [List.all_eq_true] at ha
      apply List.ext_getElem (by omega)
      intro i h1 h2
      have := ha i (by simp [List.mem_range']; omega)
      simp only [beq_iff_eq, List.getD_eq_getElem?_getD, List.getElem?_eq_getElem h1, List.getElem?_eq_getElem h2, Option.getD_some] at this
      exact UInt8.toNat_inj.1 (by omega)
end
end Go.Proofs.YtfngomlknhappaaDoor.ArrW

/-
  Array variables through a world in which one block alone is written; variables laid and filled at once. No program is named here. Conditions: in each statement.
-/
namespace Go.Proofs.YtfngomlknhappaaDoor.ArrG
open Go.RowKit BytesW ArrW

theorem arr_grown {w w' : World} {g r : Nat} {t : TypeId} {xs : List Value} (h : Arr w g t xs) (hg : w.grownBy w' (some r)) (hne : g ≠ r) : Arr w' g t xs :=
  (hg.block g h.lt (fun e => hne (by cases e; rfl))).trans h
theorem bs_grown {w w' : World} {B r : Nat} {A : Option Addr} {l : List UInt8} (h : Bs w B A l) (hg : w.grownBy w' (some r)) (hne : B ≤ r) (hB : B ≤ w.heap.size) : Bs w' B A l := by
  intro h0
  obtain ⟨ad, e, hlt, hc⟩ := h h0
  subst e
  exact ⟨ad, rfl, hlt, fun k hk => (World.cell?_of_block (hg.block _ (by rw [add_block]; omega) (by rw [add_block]; intro e; cases e; omega))).trans (hc k hk)⟩
theorem grownBelow {w w' : World} {g B : Nat} (h : w.grownBy w' (some g)) (hg : B ≤ g) (hB : B ≤ w.heap.size) : Below B w w' :=
  ⟨h.os, h.tape, h.output, h.size, fun k hk => h.block k (by omega) (fun e => by cases e; omega)⟩
theorem grownOf {w w' : World} {g : Nat} (h : Below w.heap.size w w') : w.grownBy w' (some g) := ⟨h.os, h.tape, h.output, h.size, fun j hj _ => h.block j hj⟩
theorem grownTrans {a b c : World} {row : Option Nat} (h : a.grownBy b row) (k : b.grownBy c row) : a.grownBy c row :=
  ⟨k.os.trans h.os, k.tape.trans h.tape, k.output.trans h.output, Nat.le_trans h.size k.size, fun i hi hne => (k.block i (Nat.lt_of_lt_of_le hi h.size) hne).trans (h.block i hi hne)⟩
theorem grownSet (w : World) (g k : Nat) (u : Value) : w.grownBy (w.setCell ⟨g, k, none⟩ u) (some g) := by
  refine ⟨rfl, rfl, rfl, by simp, fun i _ hne => ?_⟩
  exact Below.heap_setCell w ⟨g, k, none⟩ u i (fun e => hne (by rw [e]))
theorem grownRefl (w : World) (r : Option Nat) : w.grownBy w r := ⟨rfl, rfl, rfl, Nat.le_refl _, fun _ _ _ => rfl⟩
theorem grownDrewN (w : World) (n : Nat) (r : Option Nat) : w.grownBy (w.drewN n) r := ⟨rfl, rfl, rfl, Nat.le_refl _, fun _ _ _ => rfl⟩
theorem grownDrew (w : World) (r : Option Nat) : w.grownBy w.drew r := ⟨rfl, rfl, rfl, Nat.le_refl _, fun _ _ _ => rfl⟩

/-- Two variables laid, one behind the other. -/
theorem start2 {w W : World} {X Y : Array Value} {t u : TypeId} (h : (w.alloc (.cells X t)).alloc (.cells Y u) = W) : Arr W w.heap.size t X.toList ∧ Arr W (w.heap.size + 1) u Y.toList ∧ Below w.heap.size w W ∧ W.heap.size = w.heap.size + 2 := by
  subst h
  have a1 := Arr.new (w.alloc (.cells X t)) Y u
  have hsz : (w.alloc (.cells X t)).heap.size = w.heap.size + 1 := by simp
  rw [hsz] at a1
  exact ⟨(Arr.new w X t).alloc _, a1, ((Below.refl w.heap.size w).alloc (Nat.le_refl _) _).alloc (by simp) _, by simp⟩
theorem start1 {w W : World} {X : Array Value} {t : TypeId} (h : w.alloc (.cells X t) = W) : Arr W w.heap.size t X.toList ∧ Below w.heap.size w W ∧ W.heap.size = w.heap.size + 1 := by
  subst h
  exact ⟨Arr.new w X t, (Below.refl w.heap.size w).alloc (Nat.le_refl _) _, by simp⟩
theorem start3 {w W : World} {X Y Z : Array Value} {t u v : TypeId} (h : ((w.alloc (.cells X t)).alloc (.cells Y u)).alloc (.cells Z v) = W) :
    Arr W w.heap.size t X.toList ∧ Arr W (w.heap.size + 1) u Y.toList ∧ Arr W (w.heap.size + 2) v Z.toList ∧ Below w.heap.size w W ∧ W.heap.size = w.heap.size + 3 := by
  obtain ⟨W2, h2⟩ : ∃ W2, (w.alloc (.cells X t)).alloc (.cells Y u) = W2 := ⟨_, rfl⟩
  obtain ⟨a, b, c, d⟩ := start2 h2
  rw [h2] at h
  obtain ⟨e, f, g⟩ := start1 h
  rw [d] at e f g
  exact ⟨a.below f (by omega), b.below f (by omega), e, c.trans (f.mono (by omega)), g⟩

theorem belowN (B : Nat) (w : World) (n : Nat) : Below B w (w.drewN n) := ⟨rfl, rfl, rfl, Nat.le_refl _, fun _ _ => rfl⟩
/-- A variable laid and filled at once. -/
theorem filled {w W : World} {X : Array Value} {t : TypeId} {ys : List Value} (h : (w.alloc (.cells X t)).setRow w.heap.size ys.toArray = W) : Arr W w.heap.size t ys ∧ Below w.heap.size w W ∧ W.heap.size = w.heap.size + 1 := by
  subst h
  exact ⟨(Arr.new w X t).row ys, below_row ((Below.refl w.heap.size w).alloc (Nat.le_refl _) _) (Nat.le_refl _) _, by simp⟩

theorem bs_keep {w w' : World} {g : Nat} {A : Option Addr} {l : List UInt8} (h : Bs w w.heap.size A l) (hg : w.grownBy w' (some g)) (hne : 0 < l.length → ∀ ad, A = some ad → ad.block ≠ g) : Bs w' w'.heap.size A l := by
  intro h0
  obtain ⟨ad, e, hlt, hcl⟩ := h h0
  exact ⟨ad, e, Nat.lt_of_lt_of_le hlt hg.size, fun k hk => (World.cell?_of_block (hg.block _ (by rw [add_block]; exact hlt) (by rw [add_block]; intro q; cases q; exact hne h0 ad e rfl))).trans (hcl k hk)⟩
/-- Another block than g. -/
def Off (g : Nat) (A : Option Addr) (l : List UInt8) : Prop := 0 < l.length → ∀ ad, A = some ad → ad.block ≠ g
theorem Off.cut {g : Nat} {A : Option Addr} {l : List UInt8} (h : Off g A l) (n cap : Nat) : Off g (if cap = n then A else A.map (·.add n)) (l.drop n) := by
  intro h0 ad e
  rw [List.length_drop] at h0
  split at e
  · exact h (by omega) ad e
  · cases A with
    | none => cases e
    | some a =>
      cases e
      rw [add_block]
      exact h (by omega) a rfl
/-- 'copy' of bytes into a row that is known whole, as an operation. -/
theorem copyO {P : Program} {w : World} {o : Oper} {a : Act} {K : Act → World → Prop} {Q : Exit → Act → World → Prop} (d s : Operand) (dT sT : TypeId)
    (ho : o.op = .call { callee := .builtin .copy, args := #[d, s], argTypes := #[dT, sT] }) (elem : TypeId) (hu : P.underlying dT = some (.slice elem)) (hsz : (P.info? elem).map (·.size) = some 1)
    (g off dLen dCap : Nat) (ad : Addr) (sLen sCap : Nat) (hd : a.eval d = .slice (some ⟨g, off, none⟩) dLen dCap) (hs : a.eval s = .slice (some ad) sLen sCap)
    (cur : List Value) (t : TypeId) (hg : Arr w g t cur) (cs : List Value) (hn : cs.length = Nat.min sLen dLen)
    (hsrc : ∀ j v, cs[j]? = some v → w.cell? (ad.add j) = some v) (hfit : off + cs.length ≤ cur.length) (h1 : ∀ v ∈ cs, v.oneCell' = true)
    (h : K (a.put o.dst (goInt cs.length)) (w.setRow g (cur.take off ++ (cs ++ cur.drop (off + cs.length))).toArray)) : o.wp P a w K Q := by
  have hrun := run_copy_row (P := P) w dT sT o.type elem g off dLen dCap ad sLen sCap cur.toArray t cs hu hsz hg hn hsrc (by simpa using hfit) h1
  unfold Oper.wp
  simp [execOp, ho, resolve, invoke, builtin, hd, hs, hrun, Result.andThen]
  exact h
theorem copyL {P : Program} {w : World} {ops : Array Oper} {rest : List Oper} {o : Oper} {a : Act} {Q : Exit → Act → World → Prop} (hgd : o.guard = none) (d s : Operand) (dT sT : TypeId)
    (ho : o.op = .call { callee := .builtin .copy, args := #[d, s], argTypes := #[dT, sT] }) (elem : TypeId) (hu : P.underlying dT = some (.slice elem)) (hsz : (P.info? elem).map (·.size) = some 1)
    (g off dLen dCap : Nat) (ad : Addr) (sLen sCap : Nat) (hd : a.eval d = .slice (some ⟨g, off, none⟩) dLen dCap) (hs : a.eval s = .slice (some ad) sLen sCap)
    (cur : List Value) (t : TypeId) (hg : Arr w g t cur) (cs : List Value) (hn : cs.length = Nat.min sLen dLen)
    (hsrc : ∀ j v, cs[j]? = some v → w.cell? (ad.add j) = some v) (hfit : off + cs.length ≤ cur.length) (h1 : ∀ v ∈ cs, v.oneCell' = true)
    (n : Nat) (zs : List Value) (hcn : cs.length = n) (hz : cur.take off ++ (cs ++ cur.drop (off + n)) = zs)
    (h : wpList P ops Q rest (a.put o.dst (goInt n)) (w.setRow g zs.toArray)) : wpList P ops Q (o :: rest) a w :=
  wpList_plain hgd fun _ hK => copyO d s dT sT ho elem hu hsz g off dLen dCap ad sLen sCap hd hs cur t hg cs hn hsrc hfit h1 (by rw [hcn, hz]; exact hK _ _ h)
end Go.Proofs.YtfngomlknhappaaDoor.ArrG

/-
  More operations on whole variables in a walk: a build by a run that is laid ahead; a load and a build under a guard that holds. No program is named here. Conditions: in each statement.
-/
namespace Go.Proofs.YtfngomlknhappaaDoor.ArrL
open Go.RowKit BytesW ArrW

theorem struct_of {P : Program} {t : TypeId} (h : (match P.underlying t with | some (.struct _) => true | _ => false) = true) : ∃ fs, P.underlying t = some (.struct fs) := by
  cases e : P.underlying t with
  | none => rw [e] at h; cases h
  | some d => cases d <;> simp_all
theorem buildL {P : Program} {w : World} {ops : Array Oper} {rest : List Oper} {o : Oper} {a : Act} {Q : Exit → Act → World → Prop} {t : TypeId} {parts : Array (Nat × Operand)} {ps : Array (Nat × Value)} {v : Value} (hgd : o.guard = none) (ho : o.op = .build t parts)
    (hp0 : (parts.toList.map fun (i, x) => (i, a.eval x)) = ps.toList) (hr : (Instr.build t ps).run P w = .ok v w) (k : wpList P ops Q rest (a.put o.dst v) w) : wpList P ops Q (o :: rest) a w := by
  have hp : (parts.map fun (i, x) => (i, a.eval x)) = ps := by
    apply Array.toList_inj.1
    rw [Array.toList_map]
    exact hp0
  refine wpList_plain hgd fun K hK => ?_
  unfold Oper.wp execOp
  simp only [ho, hp, Sem.run_bind, hr, Sem.run_pure, Result.andThen_ok]
  exact hK _ _ k
/-- A whole variable's load, under a guard that holds. -/
theorem loadLg {P : Program} {w : World} {g : Nat} {t : TypeId} {xs : List Value} {ops : Array Oper} {rest : List Oper} {o : Oper} {a : Act} {Q : Exit → Act → World → Prop} (h : Arr w g t xs) (hgd : Region.wanted o (yielded ops a.tmps) = true) (ty : TypeId) (x : Operand) (ho : o.op = .load ty x)
    (hx : a.eval x = .pointer (some ⟨g, 0, none⟩)) {d : TypeDesc} (hu : P.underlying ty = some d) (hd : (match d with | .struct _ | .array _ _ => true | _ => false) = true) {n : Nat} (hi : (P.info? ty).map (·.size) = some n) (hn : xs.length = n)
    (k : wpList P ops Q rest (a.put o.dst (.agg xs.toArray)) w) : wpList P ops Q (o :: rest) a w := by
  refine wpList_step fun K hK => ?_
  rw [if_pos hgd]
  exact Arr.loadO h ty x ho hx hu hd hi hn (hK _ _ k)
theorem buildLg {P : Program} {w : World} {ops : Array Oper} {rest : List Oper} {o : Oper} {a : Act} {Q : Exit → Act → World → Prop} {t : TypeId} {parts : Array (Nat × Operand)} {ps : Array (Nat × Value)} {v : Value} (hgd : Region.wanted o (yielded ops a.tmps) = true) (ho : o.op = .build t parts)
    (hp0 : (parts.toList.map fun (i, x) => (i, a.eval x)) = ps.toList) (hr : (Instr.build t ps).run P w = .ok v w) (k : wpList P ops Q rest (a.put o.dst v) w) : wpList P ops Q (o :: rest) a w := by
  have hp : (parts.map fun (i, x) => (i, a.eval x)) = ps := by
    apply Array.toList_inj.1
    rw [Array.toList_map]
    exact hp0
  refine wpList_step fun K hK => ?_
  rw [if_pos hgd]
  unfold Oper.wp execOp
  simp only [ho, hp, Sem.run_bind, hr, Sem.run_pure, Result.andThen_ok]
  exact hK _ _ k

end Go.Proofs.YtfngomlknhappaaDoor.ArrL

/-
  Slices of digests (32 cells an element): a slice value that reads as a list of digests; a row of digests that the call owns; append of one; the load of one. Conditions: in each statement.
-/
namespace Go.Proofs.YtfngomlknhappaaDoor.DigsW
open Go.RowKit BytesW CellsW ArrW

/-- Each of 32 bytes. -/
def D32 (ds : List (List UInt8)) : Prop := ∀ d ∈ ds, d.length = 32
theorem D32.len {ds : List (List UInt8)} (h : D32 ds) : ds.flatten.length = 32 * ds.length := by
  induction ds with
  | nil => rfl
  | cons d r ih =>
    rw [List.flatten_cons, List.length_append, ih (fun x hx => h x (List.mem_cons_of_mem _ hx)), h d (by simp), List.length_cons]
    omega
theorem D32.take {ds : List (List UInt8)} (h : D32 ds) (k : Nat) : D32 (ds.take k) := fun d hd => h d (List.mem_of_mem_take hd)
theorem D32.drop {ds : List (List UInt8)} (h : D32 ds) (k : Nat) : D32 (ds.drop k) := fun d hd => h d (List.mem_of_mem_drop hd)
theorem flat_take (ds : List (List UInt8)) : ∀ (k : Nat), D32 ds → (ds.take k).flatten = ds.flatten.take (32 * k) := by
  induction ds with
  | nil => intro k _; simp
  | cons d r ih =>
    intro k h
    cases k with
    | zero => simp
    | succ k =>
      have hd := h d (by simp)
      rw [List.take_succ_cons, List.flatten_cons, List.flatten_cons, ih k (fun x hx => h x (List.mem_cons_of_mem _ hx)), List.take_append, hd, List.take_of_length_le (l := d) (by omega), show 32 * (k + 1) - 32 = 32 * k by omega]
theorem flat_drop (ds : List (List UInt8)) : ∀ (k : Nat), D32 ds → (ds.drop k).flatten = ds.flatten.drop (32 * k) := by
  induction ds with
  | nil => intro k _; simp
  | cons d r ih =>
    intro k h
    cases k with
    | zero => simp
    | succ k =>
      have hd := h d (by simp)
      rw [List.drop_succ_cons, List.flatten_cons, ih k (fun x hx => h x (List.mem_cons_of_mem _ hx)), List.drop_append, hd, List.drop_of_length_le (l := d) (by omega), List.nil_append, show 32 * (k + 1) - 32 = 32 * k by omega]
theorem flat_at (ds : List (List UInt8)) (k : Nat) (h : D32 ds) (hk : k < ds.length) : (ds.flatten.drop (32 * k)).take 32 = ds[k] := by
  rw [← flat_drop ds k h, List.drop_eq_getElem_cons hk, List.flatten_cons, List.take_append_of_le_length (by have := h ds[k] (List.getElem_mem hk); omega), List.take_of_length_le (by have := h ds[k] (List.getElem_mem hk); omega)]

/-- The slice value '.slice A ds.length c' reads as the digests ds, below block B. -/
def Ds (w : World) (B : Nat) (A : Option Addr) (ds : List (List UInt8)) : Prop := D32 ds ∧ Bs w B A ds.flatten

section
variable {w w' : World} {B B' : Nat} {A : Option Addr} {ds : List (List UInt8)} {v : Value}
theorem Ds.nil (w : World) (B : Nat) (A : Option Addr) : Ds w B A [] := ⟨fun _ hd => (List.not_mem_nil hd).elim, Bs.nil _ _ _⟩
theorem Ds.more (h : Ds w B A ds) (hB : B ≤ B') : Ds w B' A ds := ⟨h.1, h.2.more hB⟩
theorem Ds.below (h : Ds w B A ds) (hb : Below B w w') : Ds w' B A ds := ⟨h.1, h.2.below hb⟩
theorem Ds.take (h : Ds w B A ds) (k : Nat) : Ds w B A (ds.take k) := ⟨h.1.take k, by rw [flat_take ds k h.1]; exact h.2.take _⟩
theorem Ds.cut (h : Ds w B A ds) (k cap : Nat) (hc : ds.length ≤ cap) : Ds w B (if cap = k then A else A.map (·.add (k * 32))) (ds.drop k) := by
  rw [Nat.mul_comm k 32]
  refine ⟨h.1.drop k, ?_⟩
  rw [flat_drop ds k h.1]
  have := h.2.cut (32 * k) (32 * cap) (by rw [h.1.len]; omega)
  by_cases e : cap = k
  · rw [if_pos e]
    rw [if_pos (by omega)] at this
    exact this
  · rw [if_neg e]
    rw [if_neg (by omega)] at this
    exact this
/-- The cells of one. -/
theorem Ds.at_ (h : Ds w B A ds) {k : Nat} (hk : k < ds.length) : ∃ ad, A = some ad ∧ ad.block < B ∧ ds[k].length = 32 ∧ Bs w B (some (ad.add (k * 32))) ds[k] := by
  rw [Nat.mul_comm k 32]
  have hl := h.1.len
  obtain ⟨ad, e, hb, hc⟩ := h.2 (by omega)
  have h32 := h.1 ds[k] (List.getElem_mem hk)
  refine ⟨ad, e, hb, h32, fun _ => ⟨_, rfl, by rw [add_block]; exact hb, fun j hj => ?_⟩⟩
  rw [add_add, hc (32 * k + j) (by omega)]
  have e2 := flat_at ds k h.1 hk
  have e3 : ds.flatten[32 * k + j]? = ds[k][j]? := by rw [← e2, List.getElem?_take, if_pos (by omega), List.getElem?_drop]
  rw [List.getElem?_eq_getElem (by omega), List.getElem?_eq_getElem hj] at e3
  rw [Option.some.inj e3]

end

section
variable {P : Program} {w : World} {B : Nat} {p : Addr} {l : List UInt8}
/-- The load of a variable's bytes as a whole, wherever they lie. -/
theorem load_bytes (h : Bs w B (some p) l) (ty : TypeId) {d : TypeDesc} (hu : P.underlying ty = some d) (hd : (match d with | .struct _ | .array _ _ => true | _ => false) = true) {n : Nat} (hi : (P.info? ty).map (·.size) = some n) (hn : l.length = n) :
    (Instr.loadAt ty (.pointer (some p))).run P w = .ok (.agg (Lib.byteCells l).toArray) w := by
  have hl : (loadCells p (Lib.byteCells l).length).run P w = .ok (Lib.byteCells l).toArray w :=
    run_loadCells_list (P := P) w p (Lib.byteCells l) (fun j v hv => by
      have hj : j < l.length := by
        have := (List.getElem?_eq_some_iff.1 hv).1
        simpa [Lib.byteCells] using this
      obtain ⟨ad, e, _, hc⟩ := h.at_ hj
      cases e
      rw [hc]
      simpa [Lib.byteCells, List.getElem?_eq_getElem hj] using hv)
  cases hq : P.info? ty with
  | none => simp [hq] at hi
  | some i =>
    have hs : i.size = (Lib.byteCells l).length := by rw [Lib.byteCells_length, hn]; simpa [hq] using hi
    have hagg : (isAgg ty).run P w = .ok true w := by
      unfold isAgg
      rw [Sem.run_bind, run_underlying hu w]
      cases d <;> simp_all
    simp only [Instr.loadAt, Instr.sureAddr, Sem.run_bind, Sem.run_pure, Result.andThen_ok]
    simp [loadVar, Sem.run_bind, hagg, sizeOf, typeInfo, hq, hs, hl]
theorem load_bytesL {ops : Array Oper} {rest : List Oper} {o : Oper} {a : Act} {Q : Exit → Act → World → Prop} (h : Bs w B (some p) l) (hgd : o.guard = none) (ty : TypeId) (x : Operand) (ho : o.op = .load ty x)
    (hx : a.eval x = .pointer (some p)) {d : TypeDesc} (hu : P.underlying ty = some d) (hd : (match d with | .struct _ | .array _ _ => true | _ => false) = true) {n : Nat} (hi : (P.info? ty).map (·.size) = some n) (hn : l.length = n)
    (k : wpList P ops Q rest (a.put o.dst (.agg (Lib.byteCells l).toArray)) w) : wpList P ops Q (o :: rest) a w := by
  refine wpList_plain hgd fun K hK => ?_
  unfold Oper.wp execOp
  simp only [ho, hx, Sem.run_bind, load_bytes h ty hu hd hi hn, Sem.run_pure, Result.andThen_ok]
  exact hK _ _ k
theorem load_bytesQ {S : World → Prop} {K : Act → Prop} {o : Oper} {a : Act} (hS : ∀ W, S W → Bs W B (some p) l) (ty : TypeId) (x : Operand) (ho : o.op = .load ty x)
    (hx : a.eval x = .pointer (some p)) {d : TypeDesc} (hu : P.underlying ty = some d) (hd : (match d with | .struct _ | .array _ _ => true | _ => false) = true) {n : Nat} (hi : (P.info? ty).map (·.size) = some n) (hn : l.length = n)
    (h : K (a.put o.dst (.agg (Lib.byteCells l).toArray))) : o.quiet P a S K := by
  refine ⟨_, fun W hW => ?_, h⟩
  unfold Oper.quietAt execOp
  simp only [ho, hx, Sem.run_bind, load_bytes (hS W hW) ty hu hd hi hn, Sem.run_pure, Result.andThen_ok]
  exact ⟨rfl, rfl⟩
theorem load_bytesE {o : Oper} {a : Act} (h : Bs w B (some p) l) (ty : TypeId) (x : Operand) (ho : o.op = .load ty x)
    (hx : a.eval x = .pointer (some p)) {d : TypeDesc} (hu : P.underlying ty = some d) (hd : (match d with | .struct _ | .array _ _ => true | _ => false) = true) {n : Nat} (hi : (P.info? ty).map (·.size) = some n) (hn : l.length = n) :
    (execOp a.eval o).run P w = .ok (.value (.agg (Lib.byteCells l).toArray)) w := by
  unfold execOp
  simp only [ho, hx, Sem.run_bind, load_bytes h ty hu hd hi hn, Sem.run_pure, Result.andThen_ok]
end
theorem thirtytwo {l : List Value} (h : l.length = 32) : ∃ x0 x1 x2 x3 x4 x5 x6 x7 x8 x9 x10 x11 x12 x13 x14 x15 x16 x17 x18 x19 x20 x21 x22 x23 x24 x25 x26 x27 x28 x29 x30 x31, l = [x0, x1, x2, x3, x4, x5, x6, x7, x8, x9, x10, x11, x12, x13, x14, x15, x16, x17, x18, x19, x20, x21, x22, x23, x24, x25, x26, x27, x28, x29, x30, x31] := by
  match l, h with
  | [x0, x1, x2, x3, x4, x5, x6, x7, x8, x9, x10, x11, x12, x13, x14, x15, x16, x17, x18, x19, x20, x21, x22, x23, x24, x25, x26, x27, x28, x29, x30, x31], _ => exact ⟨x0, x1, x2, x3, x4, x5, x6, x7, x8, x9, x10, x11, x12, x13, x14, x15, x16, x17, x18, x19, x20, x21, x22, x23, x24, x25, x26, x27, x28, x29, x30, x31, rfl⟩
end Go.Proofs.YtfngomlknhappaaDoor.DigsW
