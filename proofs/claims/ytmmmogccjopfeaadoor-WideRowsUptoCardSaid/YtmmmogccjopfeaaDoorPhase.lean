/-
  A region that draws its order, in phases: in each some operations that are quiet in a class of worlds (values, or calls that hand back one value and stay in the class), in whatever order; then one that comes up alone, whatever it does; the class may be chosen anew behind it. No program is named here. Conditions: in the last theorem.
-/
import Derived.Deep.Quiet
import Derived.Deep.QuietTactic
import Derived.StillTail
namespace Go.Proofs.YtmmmogccjopfeaaDoor.Phase
open Go

section
variable {P : Program} {ops : Array Oper} {Q : Exit → Act → World → Prop} {md : Region.Mode}

/-- Operation j waits for i, over however many others. -/
inductive Reach (md : Region.Mode) (ops : Array Oper) : Nat → Nat → Prop
  | one {j : Nat} {o : Oper} {e} (h : ops[j]? = some o) (he : e ∈ o.after) (hb : Region.binds md e = true) : Reach md ops j e.on
  | step {j i : Nat} {o : Oper} {e} (h : ops[j]? = some o) (he : e ∈ o.after) (hb : Region.binds md e = true) (hr : Reach md ops e.on i) : Reach md ops j i

/-- What is listed has all listed that it waited for. -/
def Closed (md : Region.Mode) (ops : Array Oper) (listed : Array Bool) : Prop :=
  ∀ j oj, ops[j]? = some oj → listed.getD j false = true → ∀ e ∈ oj.after, Region.binds md e = true → listed.getD e.on false = true

theorem reach_listed {listed : Array Bool} (hc : Closed md ops listed) {j i : Nat} (h : Reach md ops j i) :
    (∀ o, ops[j]? = some o → ∀ e ∈ o.after, Region.binds md e = true → listed.getD e.on false = true) → listed.getD i false = true := by
  induction h with
  | one h he hb => intro hj; exact hj _ h _ he hb
  | step h he hb _ ih =>
    intro hj
    exact ih fun o' ho' e' he' hb' => hc _ o' ho' (hj _ h _ he hb) e' he' hb'

theorem Closed.set {listed : Array Bool} (hc : Closed md ops listed) {i : Nat} (hi : i ∈ Region.ready md ops listed) : Closed md ops (listed.setIfInBounds i true) := by
  obtain ⟨_, oi, hoi, hall⟩ := mem_ready.1 hi
  intro j oj hj hl e he hb
  by_cases hij : i = j
  · subst hij
    have : oj = oi := Option.some.inj (hj.symm.trans hoi)
    subst this
    exact getD_set_true (hall e he hb)
  · rw [getD_set_ne false hij] at hl
    exact getD_set_true (hc j oj hj hl e he hb)

/-- For each operation the bits of those that it waits for. -/
def maskOf (md : Region.Mode) (acc : List Nat) (o : Oper) : Nat := o.after.toList.foldl (fun m e => if Region.binds md e = true then (m ||| 2 ^ e.on) ||| acc.getD e.on 0 else m) 0
def masks (md : Region.Mode) : List Oper → List Nat → List Nat
  | [], acc => acc
  | o :: l, acc => masks md l (acc ++ [maskOf md acc o])

theorem fold_bits {acc : List Nat} {R : Nat → Prop} : ∀ (l : List _) (m : Nat), (∀ i, m.testBit i = true → R i) →
    (∀ e ∈ l, Region.binds md e = true → R e.on ∧ ∀ i, (acc.getD e.on 0).testBit i = true → R i) →
    ∀ i, (l.foldl (fun m e => if Region.binds md e = true then (m ||| 2 ^ e.on) ||| acc.getD e.on 0 else m) m).testBit i = true → R i := by
  intro l
  induction l with
  | nil => intro m hm _ i h; exact hm i h
  | cons e l ih =>
    intro m hm hl i h
    rw [List.foldl_cons] at h
    refine ih _ ?_ (fun e' he' => hl e' (List.mem_cons_of_mem _ he')) i h
    intro k hk
    split at hk
    · rename_i hb
      obtain ⟨h1, h2⟩ := hl e (List.mem_cons_self ..) hb
      rw [Nat.testBit_or, Nat.testBit_or, Bool.or_eq_true, Bool.or_eq_true] at hk
      rcases hk with (hk | hk) | hk
      · exact hm k hk
      · rw [Nat.testBit_two_pow] at hk
        have : e.on = k := by simpa using hk
        rw [← this]; exact h1
      · exact h2 k hk
    · exact hm k hk

theorem masks_sound : ∀ (l : List Oper) (acc : List Nat), (∀ j, l[j]? = ops[acc.length + j]?) → (∀ j i, (acc.getD j 0).testBit i = true → Reach md ops j i) →
    ∀ j i, ((masks md l acc).getD j 0).testBit i = true → Reach md ops j i := by
  intro l
  induction l with
  | nil => intro acc _ h j i hb; exact h j i hb
  | cons o l ih =>
    intro acc hl h
    refine ih (acc ++ [maskOf md acc o]) (fun j => ?_) (fun j i hb => ?_)
    · have := hl (j + 1)
      simpa [Nat.add_assoc, Nat.add_comm 1 j] using this
    · have h0 : ops[acc.length]? = some o := by simpa using (hl 0).symm
      rcases Nat.lt_trichotomy j acc.length with hj | hj | hj
      · rw [List.getD_eq_getElem?_getD, List.getElem?_append_left hj, ← List.getD_eq_getElem?_getD] at hb
        exact h j i hb
      · subst hj
        rw [List.getD_eq_getElem?_getD, List.getElem?_append_right (Nat.le_refl _)] at hb
        simp only [Nat.sub_self, List.getElem?_cons_zero, Option.getD_some] at hb
        unfold maskOf at hb
        refine fold_bits (md := md) (acc := acc) (R := Reach md ops acc.length) o.after.toList 0 (fun i h => by simp at h) (fun e he hbe => ?_) i hb
        have he' : e ∈ o.after := by simpa using he
        exact ⟨.one h0 he' hbe, fun k hk => .step h0 he' hbe (h _ _ hk)⟩
      · rw [List.getD_eq_getElem?_getD, List.getElem?_eq_none (by simp; omega)] at hb
        simp at hb

/-- All that is not listed and not of the phase waits for each of the phase. -/
def outerOk (M : List Nat) (ops : Array Oper) (ph : List Nat) (listed : Array Bool) : Bool :=
  (List.range ops.size).all fun j => listed.getD j true || ph.contains j || ph.all fun i => (M.getD j 0).testBit i

def Outer (md : Region.Mode) (ops : Array Oper) (ph : List Nat) (listed : Array Bool) : Prop :=
  ∀ j o, ops[j]? = some o → listed.getD j true = false → j ∉ ph → ∀ i ∈ ph, Reach md ops j i

theorem outer_of {M : List Nat} (hM : ∀ j i, (M.getD j 0).testBit i = true → Reach md ops j i) {ph : List Nat} {listed : Array Bool} (h : outerOk M ops ph listed = true) : Outer md ops ph listed := by
  intro j o hj hl hp i hi
  simp only [outerOk, List.all_eq_true, List.mem_range] at h
  have h1 := h j (Array.getElem?_eq_some_iff.1 hj).1
  simp only [hl, Bool.false_or, Bool.or_eq_true, List.contains_iff_mem, hp, false_or, List.all_eq_true] at h1
  exact hM _ _ (h1 i hi)

theorem Outer.set {ph : List Nat} {listed : Array Bool} (h : Outer md ops ph listed) (k : Nat) : Outer md ops ph (listed.setIfInBounds k true) := by
  intro j o hj hl hp
  refine h j o hj ?_ hp
  by_cases hk : k = j
  · subst hk
    rcases Nat.lt_or_ge k listed.size with h' | h'
    · simp [h'] at hl
    · simp at hl
  · rw [getD_set_ne true hk] at hl; exact hl

/-- What is ready while one of the phase is not listed is of the phase. -/
theorem ready_in {ph : List Nat} {listed : Array Bool} (hc : Closed md ops listed) (ho : Outer md ops ph listed) {i : Nat} (hi : i ∈ ph) (hun : listed.getD i true = false) {j : Nat} (hj : j ∈ Region.ready md ops listed) : j ∈ ph := by
  apply Classical.byContradiction
  intro hp
  obtain ⟨hl, oj, hoj, hall⟩ := mem_ready.1 hj
  have := reach_listed hc (ho j oj hoj hl hp i hi) (fun o ho' e he hb => by
    have : o = oj := Option.some.inj (ho'.symm.trans hoj)
    subst this
    exact hall e he hb)
  rw [getD_both hun] at this
  cases this

/-- Whatever order is picked within the phase. -/
def wpPh (P : Program) (md : Region.Mode) (ops : Array Oper) (S : World → Prop) (ph : List Nat) (L : Array Bool → Act → Prop) : Nat → Array Bool → Act → Prop
  | 0, listed, a => L listed a
  | f + 1, listed, a => Region.ready md ops listed ≠ [] ∧ ∀ i ∈ Region.ready md ops listed, i ∈ ph ∧ qOp P ops S i (wpPh P md ops S ph L f (listed.setIfInBounds i true)) a

theorem wpAny_of_ph {S : World → Prop} {ph : List Nat} {g : Nat} {L : Array Bool → Act → Prop} (hL : ∀ listed a w, S w → L listed a → wpAny P md ops Q g listed a w) :
    ∀ (f : Nat) (listed : Array Bool) (a : Act) (w : World), S w → wpPh P md ops S ph L f listed a → wpAny P md ops Q (f + g) listed a w
  | 0, listed, a, w, hS, h => by rw [Nat.zero_add]; exact hL _ _ _ hS h
  | f + 1, listed, a, w, hS, h => by
    rw [show f + 1 + g = (f + g) + 1 by omega]
    exact ⟨fun h0 => absurd h0 h.1, fun i hi => wpOp_of_qOp hS (fun a' w' hw' h' => wpAny_of_ph hL f _ a' w' hw' h') (h.2 i hi).2⟩

theorem wpPh_first {S : World → Prop} {ph : List Nat} {i : Nat} {oi : Oper} {v : Value} {L : Array Bool → Act → Prop} (hi : ops[i]? = some oi) (hsel : ∀ (j : Nat) (o : Oper) cs b, ops[j]? = some o → o.op ≠ .select cs b)
    (hin : i ∈ ph) (hdone : ∀ listed a, L listed a → ∀ j ∈ Region.ready md ops listed, j ∉ ph) :
    ∀ (f : Nat) (listed : Array Bool) (a : Act), Closed md ops listed → Outer md ops ph listed →
      (∀ j oj, ops[j]? = some oj → j ≠ i → listed.getD j true = false → (∀ e ∈ oj.after, Region.binds md e = true → e.on ≠ i) → oi.apart ops oj = true) →
      i ∈ Region.ready md ops listed → YieldsIn P ops S oi v a →
      wpPh P md ops S ph L f (listed.setIfInBounds i true) (a.put oi.dst v) → wpPh P md ops S ph L (f + 1) listed a := by
  intro f
  induction f with
  | zero =>
    intro listed a hc ho _ hr hy H
    have hun := (mem_ready.1 hr).1
    refine ⟨fun h => (by rw [h] at hr; cases hr), fun j hj => ?_⟩
    have hjp := ready_in hc ho hin hun hj
    refine ⟨hjp, ?_⟩
    by_cases hji : j = i
    · subst hji; exact hy.qOp hi H
    · exact absurd hjp (hdone _ _ H j (ready_mono hj hji))
  | succ f ih =>
    intro listed a hc ho hfree hr hy H
    have hun := (mem_ready.1 hr).1
    refine ⟨fun h => (by rw [h] at hr; cases hr), fun j hj => ?_⟩
    have hjp := ready_in hc ho hin hun hj
    refine ⟨hjp, ?_⟩
    by_cases hji : j = i
    · subst hji; exact hy.qOp hi H
    · have h1 := (H.2 j (ready_mono hj hji)).2
      obtain ⟨hjun, oj, hoj, hall⟩ := mem_ready.1 hj
      have hnot : ∀ e ∈ oj.after, Region.binds md e = true → e.on ≠ i := fun e he hb heq => by
        have h1 := hall e he hb
        rw [heq, getD_both hun] at h1
        cases h1
      have h2 := qOp_put hoj (hfree j oj hoj hji hjun hnot) (fun cs b => hsel i oi cs b hi) (fun cs b => hsel j oj cs b hoj) hy h1
      have hfree' : ∀ k ok, ops[k]? = some ok → k ≠ i → (listed.setIfInBounds j true).getD k true = false →
          (∀ e ∈ ok.after, Region.binds md e = true → e.on ≠ i) → oi.apart ops ok = true := fun k ok hk hki hun' hno => by
        refine hfree k ok hk hki ?_ hno
        by_cases hjk : j = k
        · subst hjk; exact hjun
        · rw [getD_set_ne true hjk] at hun'; exact hun'
      refine qOp_mono (fun a' h3 => ih (listed.setIfInBounds j true) a' (hc.set hj) (ho.set j) hfree' (ready_mono hr (Ne.symm hji)) h3.1 ?_) h2
      rw [Array.setIfInBounds_comm _ _ hji]
      exact h3.2

/-- The phase's walk, in the order in which it is written. -/
def wpQs (P : Program) (ops : Array Oper) (S : World → Prop) (R : Act → Prop) : List Nat → Act → Prop
  | [], a => R a
  | i :: l, a => qOp P ops S i (wpQs P ops S R l) a

def lexPh (ops : Array Oper) : List Nat → Array Bool → Option (Array Bool)
  | [], listed => some listed
  | i :: l, listed => if (Region.ready .any ops listed).contains i && Region.free .any ops listed i then lexPh ops l (listed.setIfInBounds i true) else none

theorem ph_lex {S : World → Prop} {ph : List Nat} {R : Act → Prop} {end_ : Array Bool} (hsel : Region.noSelect ops = true) (hend : ∀ j ∈ Region.ready .any ops end_, j ∉ ph) :
    ∀ (l : List Nat) (listed : Array Bool) (a : Act), (∀ i ∈ l, i ∈ ph) → Closed .any ops listed → Outer .any ops ph listed → lexPh ops l listed = some end_ → wpQs P ops S R l a →
      wpPh P .any ops S ph (fun listed' a' => listed' = end_ ∧ R a') l.length listed a ∧ Closed .any ops end_ := by
  intro l
  induction l with
  | nil =>
    intro listed a _ hc _ hl h
    simp only [lexPh, Option.some.injEq] at hl
    subst hl
    exact ⟨⟨rfl, h⟩, hc⟩
  | cons i l ih =>
    intro listed a hin hc ho hl h
    simp only [lexPh] at hl
    split at hl
    · rename_i hcond
      simp only [Bool.and_eq_true] at hcond
      have hr : i ∈ Region.ready .any ops listed := by simpa using hcond.1
      obtain ⟨_, oi, hoi, _⟩ := mem_ready.1 hr
      obtain ⟨v, hy, hK⟩ := yieldsIn_of_qOp hoi h
      obtain ⟨h1, h2⟩ := ih _ _ (fun k hk => hin k (List.mem_cons_of_mem _ hk)) (hc.set hr) (ho.set i) hl hK
      exact ⟨wpPh_first hoi (Region.noSelect_spec hsel) (hin i (List.mem_cons_self ..)) (fun listed' a' hL => by rw [hL.1]; exact hend) l.length listed a hc ho (Region.free_spec hoi hcond.2) hr hy h1, h2⟩
    · cases hl

/-- Operations that yield one value in whatever world, taken first. -/
def wpPu (P : Program) (ops : Array Oper) (R : Act → Prop) : List Nat → Act → Prop
  | [], a => R a
  | i :: l, a => ∃ o, ops[i]? = some o ∧ if Region.wanted o (yielded ops a.tmps) then ∃ v, (∀ w, (execOp a.eval o).run P w = .ok (.value v) w) ∧ wpPu P ops R l (a.put o.dst v) else wpPu P ops R l (a.put o.dst undef)

theorem pu_sound (hs : Region.noSelect ops = true) (hQ : ∀ c a d v w, Q (.panic c) (a.put d v) w → Q (.panic c) a w) {R : Act → Prop} {end_ : Array Bool} {g : Nat} {w : World} (hR : Closed .any ops end_ → ∀ a, R a → wpAny P .any ops Q g end_ a w) :
    ∀ (l : List Nat) (listed : Array Bool) (a : Act), Closed .any ops listed → lexPh ops l listed = some end_ → wpPu P ops R l a → wpAny P .any ops Q (l.length + g) listed a w := by
  intro l
  induction l with
  | nil =>
    intro listed a hc hl h
    simp only [lexPh, Option.some.injEq] at hl
    subst hl
    simpa using hR hc a h
  | cons i l ih =>
    intro listed a hc hl h
    simp only [lexPh] at hl
    split at hl
    · rename_i hcond
      simp only [Bool.and_eq_true] at hcond
      have hr : i ∈ Region.ready .any ops listed := by simpa using hcond.1
      obtain ⟨o, hi, h⟩ := h
      rw [show (i :: l).length + g = (l.length + g) + 1 by simp; omega]
      split at h
      · rename_i hw
        obtain ⟨v, hv, hk⟩ := h
        exact wpAny_take hi hs hcond.2 hcond.1 (fun c a w => hQ c a _ _ w) (Or.inl ⟨hw, hv⟩) (ih _ _ (hc.set hr) hl hk)
      · rename_i hw
        exact wpAny_take hi hs hcond.2 hcond.1 (fun c a w => hQ c a _ _ w) (Or.inr ⟨by simpa using hw, rfl⟩) (ih _ _ (hc.set hr) hl h)
    · cases hl

/-- The walk of all phases: in each first what yields one value in whatever world, then what is quiet, then what comes up alone. -/
def wpG (P : Program) (ops : Array Oper) (Q : Exit → Act → World → Prop) : List (List Nat × List Nat × Option Nat) → (World → Prop) → Act → Prop
  | [], S, a => ∀ w, S w → Q .normal a w
  | (pu, ph, none) :: m, S, a => wpPu P ops (wpQs P ops S (wpG P ops Q m S) ph) pu a
  | (pu, ph, some k) :: m, S, a => wpPu P ops (wpQs P ops S (fun a' => ∀ w, S w → wpOp P ops Q k (fun a'' w' => ∃ S' : World → Prop, S' w' ∧ wpG P ops Q m S' a'') a' w) ph) pu a

def gOk (M : List Nat) (ops : Array Oper) : List (List Nat × List Nat × Option Nat) → Array Bool → Bool
  | [], listed => Region.ready .any ops listed == []
  | (pu, ph, k) :: m, listed0 => match lexPh ops pu listed0 with
    | none => false
    | some listed => outerOk M ops ph listed && match lexPh ops ph listed with
      | none => false
      | some l' => (Region.ready .any ops l').all (fun j => !ph.contains j) && match k with
        | none => gOk M ops m l'
        | some k => Region.ready .any ops l' == [k] && gOk M ops m (l'.setIfInBounds k true)

def fuelOf : List (List Nat × List Nat × Option Nat) → Nat
  | [] => 0
  | (pu, ph, none) :: m => pu.length + (ph.length + fuelOf m)
  | (pu, ph, some _) :: m => pu.length + (ph.length + (fuelOf m + 1))

theorem g_sound {M : List Nat} (hM : ∀ j i, (M.getD j 0).testBit i = true → Reach .any ops j i) (hsel : Region.noSelect ops = true) (hQ : ∀ c a d v w, Q (.panic c) (a.put d v) w → Q (.panic c) a w) :
    ∀ (m : List (List Nat × List Nat × Option Nat)) (S : World → Prop) (listed : Array Bool) (a : Act) (w : World), Closed .any ops listed → gOk M ops m listed = true → wpG P ops Q m S a → S w → wpAny P .any ops Q (fuelOf m) listed a w := by
  intro m
  induction m with
  | nil =>
    intro S listed a w _ hB h hS
    exact ⟨by simpa [gOk] using hB, h w hS⟩
  | cons x m ih =>
    obtain ⟨pu, ph, k⟩ := x
    intro S listed0 a w hc0 hB h hS
    simp only [gOk] at hB
    cases hl0 : lexPh ops pu listed0 with
    | none => rw [hl0] at hB; cases hB
    | some listed =>
      rw [hl0] at hB
      simp only [Bool.and_eq_true] at hB
      obtain ⟨ho, hB⟩ := hB
      cases hl : lexPh ops ph listed with
      | none => rw [hl] at hB; cases hB
      | some l' =>
        rw [hl] at hB
        simp only [Bool.and_eq_true] at hB
        obtain ⟨hend, hB⟩ := hB
        have hend' : ∀ j ∈ Region.ready .any ops l', j ∉ ph := fun j hj => by
          have := List.all_eq_true.1 hend j hj
          simpa using this
        cases k with
        | none =>
          refine pu_sound hsel hQ (fun hc a' h' => ?_) pu listed0 a hc0 hl0 h
          obtain ⟨h1, h2⟩ := ph_lex (S := S) (R := wpG P ops Q m S) hsel hend' ph listed a' (fun _ h => h) hc (outer_of hM ho) hl h'
          exact wpAny_of_ph (fun listed' a' w' hS' hL => by rw [hL.1]; exact ih S l' a' w' h2 hB hL.2 hS') ph.length listed a' w hS h1
        | some k =>
          simp only [Bool.and_eq_true] at hB
          obtain ⟨hr, hB⟩ := hB
          have hr' : Region.ready .any ops l' = [k] := by simpa using hr
          refine pu_sound hsel hQ (fun hc a' h' => ?_) pu listed0 a hc0 hl0 h
          obtain ⟨h1, h2⟩ := ph_lex (S := S) (R := fun a' => ∀ w, S w → wpOp P ops Q k (fun a'' w' => ∃ S' : World → Prop, S' w' ∧ wpG P ops Q m S' a'') a' w) hsel hend' ph listed a' (fun _ h => h) hc (outer_of hM ho) hl h'
          refine wpAny_of_ph (fun listed' a' w' hS' hL => ?_) ph.length listed a' w hS h1
          rw [hL.1]
          refine ⟨fun h0 => (by rw [hr'] at h0; cases h0), fun i hi => ?_⟩
          have hik : i = k := by rw [hr'] at hi; simpa using hi
          subst hik
          exact wpOp_mono (fun a'' w'' h3 => by
            obtain ⟨S', hS'', hg⟩ := h3
            exact ih S' _ a'' w'' (h2.set hi) hB hg hS'') (hL.2 w' hS')

def phasesOk (ops : List Oper) (m : List (List Nat × List Nat × Option Nat)) : Bool :=
  Region.noSelect ops.toArray && fuelOf m == ops.length && gOk (masks .any ops []) ops.toArray m (Array.replicate ops.length false)

/-- A region in phases, from the world behind its draw. -/
theorem wp_region_phases {id : Nat} {a : Act} {w : World} {l : List Oper} (m : List (List Nat × List Nat × Option Nat)) (S : World → Prop) (hm : P.follows .mixedOrders = true) (hB : phasesOk l m = true)
    (hQ : ∀ c a d v w, Q (.panic c) (a.put d v) w → Q (.panic c) a w) (hS : S w.drew)
    (h : wpG P l.toArray Q m S a) : (Code.region id l.toArray true).wp P Q a w := by
  simp only [phasesOk, Bool.and_eq_true] at hB
  obtain ⟨⟨hs, hf⟩, hB⟩ := hB
  have hM := masks_sound (md := .any) (ops := l.toArray) l [] (by simp) (by simp)
  have hc : Closed .any l.toArray (Array.replicate l.length false) := fun j oj _ hl => by rw [getD_replicate_false] at hl; cases hl
  have := g_sound (P := P) (Q := Q) hM hs hQ m S _ a w.drew hc hB h hS
  rw [show fuelOf m = l.toArray.size by simpa using hf] at this
  exact wp_region_any hm (by simpa using this)

/-! ### The steps -/
theorem q_step {S : World → Prop} {R : Act → Prop} {i : Nat} {o : Oper} {l : List Nat} {a : Act} (hi : ops[i]? = some o)
    (h : ∀ K : Act → Prop, (∀ a, wpQs P ops S R l a → K a) → if Region.wanted o (yielded ops a.tmps) then o.quiet P a S K else K (a.put o.dst undef)) : wpQs P ops S R (i :: l) a := by
  unfold wpQs qOp
  simp only [hi]
  exact h _ fun _ h => h
theorem q_nil {S : World → Prop} {R : Act → Prop} {a : Act} (h : R a) : wpQs P ops S R [] a := h
theorem p_step {R : Act → Prop} {i : Nat} {o : Oper} {l : List Nat} {a : Act} (hi : ops[i]? = some o)
    (h : ∀ K : Act → Prop, (∀ a, wpPu P ops R l a → K a) → if Region.wanted o (yielded ops a.tmps) then ∃ v, (∀ w, (execOp a.eval o).run P w = .ok (.value v) w) ∧ K (a.put o.dst v) else K (a.put o.dst undef)) : wpPu P ops R (i :: l) a :=
  ⟨o, hi, h _ fun _ h => h⟩
theorem p_nil {R : Act → Prop} {a : Act} (h : R a) : wpPu P ops R [] a := h
theorem g_quiet {pu ph : List Nat} {m : List (List Nat × List Nat × Option Nat)} {S : World → Prop} {a : Act} (h : wpPu P ops (wpQs P ops S (wpG P ops Q m S) ph) pu a) : wpG P ops Q ((pu, ph, none) :: m) S a := h
theorem q_mono {S : World → Prop} : ∀ (ph : List Nat) (a : Act) {R R' : Act → Prop}, (∀ a, R a → R' a) → wpQs P ops S R ph a → wpQs P ops S R' ph a
  | [], a, _, _, hR, h => hR a h
  | _ :: l, _, _, _, hR, h => qOp_mono (fun a' => q_mono l a' hR) h
theorem p_mono : ∀ (pu : List Nat) (a : Act) {R R' : Act → Prop}, (∀ a, R a → R' a) → wpPu P ops R pu a → wpPu P ops R' pu a
  | [], a, _, _, hR, h => hR a h
  | _ :: l, _, _, _, hR, ⟨o, hi, h⟩ => ⟨o, hi, by
    split at h
    · rename_i hw
      rw [if_pos hw]
      obtain ⟨v, hv, h⟩ := h
      exact ⟨v, hv, p_mono l _ hR h⟩
    · rename_i hw
      rw [if_neg hw]
      exact p_mono l _ hR h⟩
theorem g_alone {pu ph : List Nat} {k : Nat} {o : Oper} {m : List (List Nat × List Nat × Option Nat)} {S : World → Prop} {a : Act} (hk : ops[k]? = some o)
    (h : wpPu P ops (wpQs P ops S (fun a' => ∀ w, S w → ∀ K : Act → World → Prop, (∀ a w, (∃ S' : World → Prop, S' w ∧ wpG P ops Q m S' a) → K a w) → if Region.wanted o (yielded ops a'.tmps) then o.wp P a' w K Q else K (a'.put o.dst undef) w) ph) pu a) :
    wpG P ops Q ((pu, ph, some k) :: m) S a := by
  refine p_mono pu a (fun a1 => q_mono ph a1 (fun a' h' w hS => ?_)) h
  unfold wpOp
  simp only [hk]
  have h'' := h' w hS _ (fun _ _ h => h)
  split
  · rename_i hw; rw [if_pos hw] at h''; exact .inl h''
  · rename_i hw; rw [if_neg hw] at h''; exact h''
theorem g_nil {S : World → Prop} {a : Act} (h : ∀ w, S w → Q .normal a w) : wpG P ops Q [] S a := h
end
end Go.Proofs.YtmmmogccjopfeaaDoor.Phase
