/-
  A region that draws its order, as in the tree of schedules; its last operation, for which all readers are waited, may end what held of the world before. Conditions: in the last statement.
-/
import Derived.Test.YtfngomlknhappaaDoorKd
namespace Go.Proofs.YtfngomlknhappaaDoor.BytesW
open Go.RowKit

/-- A world that meets R. -/
structure Wd (R : World → Prop) where
  val : World
  property : R val
theorem Wd.of {R : World → Prop} {W : World} (h : R W) : ∃ x : Wd R, W = x.val := ⟨⟨W, h⟩, rfl⟩
theorem Wd.some {R : World → Prop} {W : World} (h : R W) : Nonempty (Wd R) := ⟨⟨W, h⟩⟩

section
variable {P : Program} {ops : Array Oper} {Q : Exit → Act → World → Prop} {S : World → Prop} {k : Nat}

/-- Whatever order is picked; S holds behind every operation but number k. -/
def wpAnyB (P : Program) (ops : Array Oper) (Q : Exit → Act → World → Prop) (S : World → Prop) (k : Nat) : Nat → Array Bool → Act → World → Prop
  | 0, listed, a, w => Region.ready .any ops listed = [] ∧ Q .normal a w
  | f + 1, listed, a, w => (Region.ready .any ops listed = [] → Q .normal a w) ∧ ∀ i ∈ Region.ready .any ops listed, wpOp P ops Q i (fun a' w' => (i ≠ k → S w') ∧ wpAnyB P ops Q S k f (listed.setIfInBounds i true) a' w') a w
theorem wpAny_of_b : ∀ (f : Nat) (listed : Array Bool) (a : Act) (w : World), wpAnyB P ops Q S k f listed a w → wpAny P .any ops Q f listed a w
  | 0, _, _, _, h => h
  | f + 1, _, _, _, h => ⟨h.1, fun i hi => wpOp_mono (fun a' w' h' => wpAny_of_b f _ a' w' h'.2) (h.2 i hi)⟩
theorem anyB_done {listed : Array Bool} {a : Act} {w : World} (hr : Region.ready .any ops listed = []) (h : Q .normal a w) : ∀ f, wpAnyB P ops Q S k f listed a w
  | 0 => ⟨hr, h⟩
  | _ + 1 => ⟨fun _ => h, by rw [hr]; simp⟩

/-- Operation k waits for i. -/
def waits (ops : Array Oper) (k i : Nat) : Bool := match ops[k]? with
  | some o => o.after.any fun e => Region.binds .any e && e.on == i
  | none => false
theorem waits_spec {i : Nat} {listed : Array Bool} (h : waits ops k i = true) (hk : k ∈ Region.ready .any ops listed) (hi : i ∈ Region.ready .any ops listed) : False := by
  obtain ⟨hun, o, ho, hall⟩ := mem_ready.1 hk
  unfold waits at h
  rw [ho] at h
  obtain ⟨e, he, h2⟩ := Array.any_eq_true'.1 h
  simp only [Bool.and_eq_true, beq_iff_eq] at h2
  have h1 := hall e he h2.1
  rw [h2.2] at h1
  have h0 := (mem_ready.1 hi).1
  rcases Nat.lt_or_ge i listed.size with h' | h'
  · simp [h'] at h0 h1; rw [h0] at h1; cases h1
  · simp [Array.getElem?_eq_none h'] at h1

theorem anyB_first {i : Nat} {oi : Oper} {v : Value} (hi : ops[i]? = some oi) (hsel : ∀ (j : Nat) (o : Oper) cs b, ops[j]? = some o → o.op ≠ .select cs b)
    (hQ : ∀ c a w, Q (.panic c) (a.put oi.dst v) w → Q (.panic c) a w) (hwt : waits ops k i = true) :
    ∀ (f : Nat) (listed : Array Bool) (a : Act) (w : World),
      (∀ j oj, ops[j]? = some oj → j ≠ i → listed.getD j true = false → (∀ e ∈ oj.after, Region.binds .any e = true → e.on ≠ i) → oi.apart ops oj = true) →
      i ∈ Region.ready .any ops listed → YieldsIf P ops S oi v a → S w →
      wpAnyB P ops Q S k f (listed.setIfInBounds i true) (a.put oi.dst v) w → wpAnyB P ops Q S k (f + 1) listed a w := by
  intro f
  induction f with
  | zero =>
    intro listed a w _ hr hy hS H
    refine ⟨fun h => (by rw [h] at hr; cases hr), fun j hj => ?_⟩
    by_cases hji : j = i
    · subst hji
      exact hy.wpOp hi hS ⟨fun _ => hS, H⟩
    · have hm := ready_mono hj hji
      rw [H.1] at hm
      cases hm
  | succ f ih =>
    intro listed a w hfree hr hy hS H
    refine ⟨fun h => (by rw [h] at hr; cases hr), fun j hj => ?_⟩
    by_cases hji : j = i
    · subst hji
      exact hy.wpOp hi hS ⟨fun _ => hS, H⟩
    · have hjk : j ≠ k := fun e => by
        subst e
        exact waits_spec hwt hj hr
      obtain ⟨hjun, oj, hoj, hall⟩ := mem_ready.1 hj
      have hnot : ∀ e ∈ oj.after, Region.binds .any e = true → e.on ≠ i := fun e he hb heq => by
        have q1 := hall e he hb
        have q0 := (mem_ready.1 hr).1
        rw [heq] at q1
        rcases Nat.lt_or_ge i listed.size with h' | h'
        · simp [h'] at q0 q1; rw [q0] at q1; cases q1
        · simp [Array.getElem?_eq_none h'] at q1
      have step := wpOp_putIf hoj (hfree j oj hoj hji hjun hnot) (fun cs b => hsel i oi cs b hi) (fun cs b => hsel j oj cs b hoj) hQ hy (H.2 j (ready_mono hj hji))
      have hfree' : ∀ n on, ops[n]? = some on → n ≠ i → (listed.setIfInBounds j true).getD n true = false →
          (∀ e ∈ on.after, Region.binds .any e = true → e.on ≠ i) → oi.apart ops on = true := fun n on hn hni hun hno => by
        refine hfree n on hn hni ?_ hno
        by_cases hjn : j = n
        · subst hjn; exact hjun
        · rw [getD_set_ne true hjn] at hun; exact hun
      refine wpOp_mono (fun a' w' h3 => ⟨h3.2.1, ih (listed.setIfInBounds j true) a' w' hfree' (ready_mono hr (Ne.symm hji)) h3.1 (h3.2.1 hjk) ?_⟩) step
      rw [Array.setIfInBounds_comm _ _ hji]
      exact h3.2.2

/-- The walk: reads as in the tree; steps, behind which S holds, but behind the last. -/
def wpOneB (P : Program) (ops : Array Oper) (S : World → Prop) (k : Nat) (Q : Exit → Act → World → Prop) (i : Nat) (K : Act → World → Prop) (a : Act) (w : World) : Prop :=
  ∃ o, ops[i]? = some o ∧ if Region.wanted o (yielded ops a.tmps) then o.wp P a w (fun a' w' => (i ≠ k → S w') ∧ K a' w') Q else K (a.put o.dst undef) w ∧ S w
def wpTreeB (P : Program) (ops : Array Oper) (S : World → Prop) (k : Nat) (Q : Exit → Act → World → Prop) : Sch → Act → World → Prop
  | .done, a, w => Q .normal a w
  | .read i m, a, w => ∃ o, ops[i]? = some o ∧ if Region.wanted o (yielded ops a.tmps) then ∃ v, (∀ w, S w → (execOp a.eval o).run P w = .ok (.value v) w) ∧ wpTreeB P ops S k Q m (a.put o.dst v) w else wpTreeB P ops S k Q m (a.put o.dst undef) w
  | .step i m, a, w => wpOneB P ops S k Q i (wpTreeB P ops S k Q m) a w
  | .fork i m j n, a, w => wpOneB P ops S k Q i (wpTreeB P ops S k Q m) a w ∧ wpOneB P ops S k Q j (wpTreeB P ops S k Q n) a w
def treeOkB (ops : Array Oper) (k : Nat) : Sch → Array Bool → Bool
  | .done, listed => Region.ready .any ops listed == []
  | .read i m, listed => (Region.ready .any ops listed).contains i && Region.free .any ops listed i && waits ops k i && !(i == k) && treeOkB ops k m (listed.setIfInBounds i true)
  | .step i m, listed => Region.ready .any ops listed == [i] && (if i = k then Region.ready .any ops (listed.setIfInBounds i true) == [] && (match m with | .done => true | _ => false) else treeOkB ops k m (listed.setIfInBounds i true))
  | .fork i m j n, listed => Region.ready .any ops listed == [i, j] && !(i == k) && !(j == k) && treeOkB ops k m (listed.setIfInBounds i true) && treeOkB ops k n (listed.setIfInBounds j true)
theorem treeB_done {a : Act} {w : World} (h : Q .normal a w) : wpTreeB P ops S k Q .done a w := h
theorem treeB_read {i : Nat} {o : Oper} {m : Sch} {a : Act} {w : World} (hi : ops[i]? = some o)
    (h : ∀ K : Act → Prop, (∀ a, wpTreeB P ops S k Q m a w → K a) → if Region.wanted o (yielded ops a.tmps) then ∃ v, (∀ w, S w → (execOp a.eval o).run P w = .ok (.value v) w) ∧ K (a.put o.dst v) else K (a.put o.dst undef)) : wpTreeB P ops S k Q (.read i m) a w :=
  ⟨o, hi, h _ fun _ h => h⟩
theorem treeB_step {i : Nat} {o : Oper} {m : Sch} {a : Act} {w : World} (hi : ops[i]? = some o) (hw : Region.wanted o (yielded ops a.tmps) = true)
    (h : ∀ K : Act → World → Prop, (∀ a w, (i ≠ k → S w) ∧ wpTreeB P ops S k Q m a w → K a w) → o.wp P a w K Q) : wpTreeB P ops S k Q (.step i m) a w := by
  refine ⟨o, hi, ?_⟩
  rw [if_pos hw]
  exact h _ (fun _ _ h => h)

theorem oneB_sound {f i : Nat} {m : Sch} {listed : Array Bool} {a : Act} {w : World} (ih : ∀ (a : Act) (w : World), wpTreeB P ops S k Q m a w → (i ≠ k → S w) → wpAnyB P ops Q S k f (listed.setIfInBounds i true) a w)
    (h : wpOneB P ops S k Q i (wpTreeB P ops S k Q m) a w) : wpOp P ops Q i (fun a' w' => (i ≠ k → S w') ∧ wpAnyB P ops Q S k f (listed.setIfInBounds i true) a' w') a w := by
  obtain ⟨o, hi, h⟩ := h
  unfold wpOp
  simp only [hi]
  split
  · rename_i hw
    rw [if_pos hw] at h
    exact .inl (Oper.wp_mono (fun a' w' h' => ⟨h'.1, ih a' w' h'.2 h'.1⟩) h)
  · rename_i hw
    rw [if_neg hw] at h
    exact ⟨fun _ => h.2, ih _ w h.1 (fun _ => h.2)⟩
theorem treeB_sound (hs : Region.noSelect ops = true) (hQ : ∀ c a d v w, Q (.panic c) (a.put d v) w → Q (.panic c) a w) :
    ∀ (m : Sch) (f : Nat) (listed : Array Bool) (a : Act) (w : World), m.depth ≤ f → treeOkB ops k m listed = true → wpTreeB P ops S k Q m a w → S w → wpAnyB P ops Q S k f listed a w := by
  intro m
  induction m with
  | done =>
    intro f listed a w _ hB h _
    exact anyB_done (by simpa [treeOkB] using hB) h f
  | read i m ih =>
    intro f listed a w hf hB h hS
    obtain ⟨f, rfl⟩ : ∃ g, f = g + 1 := ⟨f - 1, by simp [Sch.depth] at hf; omega⟩
    have hf' : m.depth ≤ f := by simpa [Sch.depth] using hf
    simp only [treeOkB, Bool.and_eq_true] at hB
    obtain ⟨⟨⟨⟨hr, hfr⟩, hwt⟩, hik⟩, hB'⟩ := hB
    obtain ⟨o, hi, h⟩ := h
    split at h
    · rename_i hw
      obtain ⟨v, hv, hk⟩ := h
      exact anyB_first hi (Region.noSelect_spec hs) (fun c a w => hQ c a _ _ w) hwt f listed a w (Region.free_spec hi hfr) (by simpa using hr) (Or.inl ⟨hw, hv⟩) hS (ih f _ _ w hf' hB' hk hS)
    · rename_i hw
      exact anyB_first hi (Region.noSelect_spec hs) (fun c a w => hQ c a _ _ w) hwt f listed a w (Region.free_spec hi hfr) (by simpa using hr) (Or.inr ⟨by simpa using hw, rfl⟩) hS (ih f _ _ w hf' hB' h hS)
  | step i m ih =>
    intro f listed a w hf hB h hS
    obtain ⟨f, rfl⟩ : ∃ g, f = g + 1 := ⟨f - 1, by simp [Sch.depth] at hf; omega⟩
    have hf' : m.depth ≤ f := by simpa [Sch.depth] using hf
    simp only [treeOkB, Bool.and_eq_true] at hB
    obtain ⟨hr, hB'⟩ := hB
    have hr' : Region.ready .any ops listed = [i] := by simpa using hr
    refine ⟨fun h0 => (by rw [hr'] at h0; cases h0), fun j hj => ?_⟩
    have hji : j = i := by rw [hr'] at hj; simpa using hj
    subst hji
    refine oneB_sound (fun a w h hS' => ?_) h
    split at hB'
    · rename_i hk
      simp only [Bool.and_eq_true] at hB'
      obtain ⟨h1, h2⟩ := hB'
      cases m with
      | done => exact anyB_done (by simpa using h1) h f
      | read _ _ => cases h2
      | step _ _ => cases h2
      | fork _ _ _ _ => cases h2
    · rename_i hk
      exact ih f _ a w hf' hB' h (hS' hk)
  | fork i m j n ihm ihn =>
    intro f listed a w hf hB h hS
    obtain ⟨f, rfl⟩ : ∃ g, f = g + 1 := ⟨f - 1, by simp [Sch.depth] at hf; omega⟩
    have hf' : m.depth ≤ f ∧ n.depth ≤ f := by simp [Sch.depth] at hf; omega
    simp only [treeOkB, Bool.and_eq_true] at hB
    obtain ⟨⟨⟨⟨hr, hik⟩, hjk⟩, hB1⟩, hB2⟩ := hB
    have hr' : Region.ready .any ops listed = [i, j] := by simpa using hr
    refine ⟨fun h0 => (by rw [hr'] at h0; cases h0), fun n' hn' => ?_⟩
    have hn2 : n' = i ∨ n' = j := by rw [hr'] at hn'; simpa using hn'
    rcases hn2 with rfl | rfl
    · exact oneB_sound (fun a w h hS' => ihm f _ a w hf'.1 hB1 h (hS' (by simpa using hik))) h.1
    · exact oneB_sound (fun a w h hS' => ihn f _ a w hf'.2 hB2 h (hS' (by simpa using hjk))) h.2

theorem wp_region_treeB {id : Nat} {a : Act} {w : World} {l : List Oper} (m : Sch) (k : Nat) (S : World → Prop) (hm : P.follows .mixedOrders = true) (hB : (Region.noSelect l.toArray && treeOkB l.toArray k m (Array.replicate l.toArray.size false)) = true) (hlen : m.depth ≤ l.length)
    (hQ : ∀ c a d v w, Q (.panic c) (a.put d v) w → Q (.panic c) a w) (hS : S w.drew) (h : wpTreeB P l.toArray S k Q m a w.drew) : (Code.region id l.toArray true).wp P Q a w := by
  simp only [Bool.and_eq_true] at hB
  obtain ⟨hs, hB⟩ := hB
  exact wp_region_any hm (wpAny_of_b _ _ _ _ (treeB_sound hs hQ m l.toArray.size _ a w.drew (by simpa using hlen) hB h hS))
end
end Go.Proofs.YtfngomlknhappaaDoor.BytesW
