/-
  A region that draws its order, some of whose operations read and may come up whenever they are ready, while of the others one or two are ready at a time: a tree of schedules. Conditions: in the last statement.
-/
import Derived.Test.YtmmmogccjopfeaaDoorTail
namespace Go.Proofs.YtmmmogccjopfeaaDoor.BytesW
open Go.RowKit

/-- 'read': it yields one value in every world that meets S. 'step': it comes up alone. 'fork': one of the two. -/
inductive Sch where
  | done : Sch
  | read : Nat → Sch → Sch
  | step : Nat → Sch → Sch
  | fork : Nat → Sch → Nat → Sch → Sch

section
variable {P : Program} {ops : Array Oper} {Q : Exit → Act → World → Prop} {S : World → Prop}

def wpOne (P : Program) (ops : Array Oper) (S : World → Prop) (Q : Exit → Act → World → Prop) (i : Nat) (K : Act → World → Prop) (a : Act) (w : World) : Prop :=
  ∃ o, ops[i]? = some o ∧ if Region.wanted o (yielded ops a.tmps) then o.wp P a w (fun a' w' => S w' ∧ K a' w') Q else K (a.put o.dst undef) w
def wpTree (P : Program) (ops : Array Oper) (S : World → Prop) (Q : Exit → Act → World → Prop) : Sch → Act → World → Prop
  | .done, a, w => Q .normal a w
  | .read i m, a, w => ∃ o, ops[i]? = some o ∧ if Region.wanted o (yielded ops a.tmps) then ∃ v, (∀ w, S w → (execOp a.eval o).run P w = .ok (.value v) w) ∧ wpTree P ops S Q m (a.put o.dst v) w else wpTree P ops S Q m (a.put o.dst undef) w
  | .step i m, a, w => wpOne P ops S Q i (wpTree P ops S Q m) a w
  | .fork i m j n, a, w => wpOne P ops S Q i (wpTree P ops S Q m) a w ∧ wpOne P ops S Q j (wpTree P ops S Q n) a w

theorem tree_done {a : Act} {w : World} (h : Q .normal a w) : wpTree P ops S Q .done a w := h
theorem tree_read {i : Nat} {o : Oper} {m : Sch} {a : Act} {w : World} (hi : ops[i]? = some o)
    (h : ∀ K : Act → Prop, (∀ a, wpTree P ops S Q m a w → K a) → if Region.wanted o (yielded ops a.tmps) then ∃ v, (∀ w, S w → (execOp a.eval o).run P w = .ok (.value v) w) ∧ K (a.put o.dst v) else K (a.put o.dst undef)) : wpTree P ops S Q (.read i m) a w :=
  ⟨o, hi, h _ fun _ h => h⟩
theorem one_of {i : Nat} {o : Oper} {m : Sch} {a : Act} {w : World} (hi : ops[i]? = some o) (hS : S w)
    (h : ∀ K : Act → World → Prop, (∀ a w, S w ∧ wpTree P ops S Q m a w → K a w) → if Region.wanted o (yielded ops a.tmps) then o.wp P a w K Q else ∀ a', a' = a.put o.dst undef → S w → K a' w) : wpOne P ops S Q i (wpTree P ops S Q m) a w := by
  refine ⟨o, hi, ?_⟩
  have h' := h (fun a' w' => S w' ∧ wpTree P ops S Q m a' w') (fun _ _ h => h)
  split
  · rename_i hw; rw [if_pos hw] at h'; exact h'
  · rename_i hw; rw [if_neg hw] at h'; exact (h' _ rfl hS).2
theorem tree_step {i : Nat} {o : Oper} {m : Sch} {a : Act} {w : World} (hi : ops[i]? = some o) (hS : S w)
    (h : ∀ K : Act → World → Prop, (∀ a w, S w ∧ wpTree P ops S Q m a w → K a w) → if Region.wanted o (yielded ops a.tmps) then o.wp P a w K Q else ∀ a', a' = a.put o.dst undef → S w → K a' w) : wpTree P ops S Q (.step i m) a w := one_of hi hS h
theorem tree_fork {i j : Nat} {oi oj : Oper} {m n : Sch} {a : Act} {w : World} (hi : ops[i]? = some oi) (hj : ops[j]? = some oj) (hS : S w)
    (h : ∀ K : Act → World → Prop, (∀ a w, S w ∧ wpTree P ops S Q m a w → K a w) → if Region.wanted oi (yielded ops a.tmps) then oi.wp P a w K Q else ∀ a', a' = a.put oi.dst undef → S w → K a' w)
    (k : ∀ K : Act → World → Prop, (∀ a w, S w ∧ wpTree P ops S Q n a w → K a w) → if Region.wanted oj (yielded ops a.tmps) then oj.wp P a w K Q else ∀ a', a' = a.put oj.dst undef → S w → K a' w) : wpTree P ops S Q (.fork i m j n) a w := ⟨one_of hi hS h, one_of hj hS k⟩

def Sch.depth : Sch → Nat
  | .done => 0
  | .read _ m | .step _ m => m.depth + 1
  | .fork _ m _ n => max m.depth n.depth + 1
def treeOk (ops : Array Oper) : Sch → Array Bool → Bool
  | .done, listed => Region.ready .any ops listed == []
  | .read i m, listed => (Region.ready .any ops listed).contains i && Region.free .any ops listed i && treeOk ops m (listed.setIfInBounds i true)
  | .step i m, listed => Region.ready .any ops listed == [i] && treeOk ops m (listed.setIfInBounds i true)
  | .fork i m j n, listed => Region.ready .any ops listed == [i, j] && treeOk ops m (listed.setIfInBounds i true) && treeOk ops n (listed.setIfInBounds j true)

theorem one_sound {fuel i : Nat} {m : Sch} {listed : Array Bool} {a : Act} {w : World} (ih : ∀ (a : Act) (w : World), wpTree P ops S Q m a w → S w → wpAnyH P .any ops Q S fuel (listed.setIfInBounds i true) a w)
    (h : wpOne P ops S Q i (wpTree P ops S Q m) a w) (hS : S w) : wpOp P ops Q i (fun a' w' => S w' ∧ wpAnyH P .any ops Q S fuel (listed.setIfInBounds i true) a' w') a w := by
  obtain ⟨o, hi, h⟩ := h
  unfold wpOp
  simp only [hi]
  split
  · rename_i hw
    rw [if_pos hw] at h
    exact .inl (Oper.wp_mono (fun a' w' h' => ⟨h'.1, ih a' w' h'.2 h'.1⟩) h)
  · rename_i hw
    rw [if_neg hw] at h
    exact ⟨hS, ih _ w h hS⟩

theorem tree_sound (hs : Region.noSelect ops = true) (hQ : ∀ c a d v w, Q (.panic c) (a.put d v) w → Q (.panic c) a w) :
    ∀ (m : Sch) (fuel : Nat) (listed : Array Bool) (a : Act) (w : World), m.depth ≤ fuel → treeOk ops m listed = true → wpTree P ops S Q m a w → S w → wpAnyH P .any ops Q S fuel listed a w := by
  intro m
  induction m with
  | done =>
    intro fuel listed a w _ hB h _
    exact wpAnyH_done (by simpa [treeOk] using hB) h fuel
  | read i m ih =>
    intro fuel listed a w hf hB h hS
    obtain ⟨fuel, rfl⟩ : ∃ f, fuel = f + 1 := ⟨fuel - 1, by simp [Sch.depth] at hf; omega⟩
    have hf' : m.depth ≤ fuel := by simpa [Sch.depth] using hf
    simp only [treeOk, Bool.and_eq_true] at hB
    obtain ⟨⟨hr, hfr⟩, hB'⟩ := hB
    obtain ⟨o, hi, h⟩ := h
    split at h
    · rename_i hw
      obtain ⟨v, hv, hk⟩ := h
      exact wpAnyH_take hi hs hfr hr (fun c a w => hQ c a _ _ w) (Or.inl ⟨hw, hv⟩) hS (ih fuel _ _ w hf' hB' hk hS)
    · rename_i hw
      exact wpAnyH_take hi hs hfr hr (fun c a w => hQ c a _ _ w) (Or.inr ⟨by simpa using hw, rfl⟩) hS (ih fuel _ _ w hf' hB' h hS)
  | step i m ih =>
    intro fuel listed a w hf hB h hS
    obtain ⟨fuel, rfl⟩ : ∃ f, fuel = f + 1 := ⟨fuel - 1, by simp [Sch.depth] at hf; omega⟩
    have hf' : m.depth ≤ fuel := by simpa [Sch.depth] using hf
    simp only [treeOk, Bool.and_eq_true] at hB
    obtain ⟨hr, hB'⟩ := hB
    refine wpAnyH_all (rs := [i]) (by simpa using hr) (by simp) fun j hj => ?_
    have hji : j = i := by simpa using hj
    subst hji
    exact one_sound (fun a w h hS => ih fuel _ a w hf' hB' h hS) h hS
  | fork i m j n ihm ihn =>
    intro fuel listed a w hf hB h hS
    obtain ⟨fuel, rfl⟩ : ∃ f, fuel = f + 1 := ⟨fuel - 1, by simp [Sch.depth] at hf; omega⟩
    have hf' : m.depth ≤ fuel ∧ n.depth ≤ fuel := by simp [Sch.depth] at hf; omega
    simp only [treeOk, Bool.and_eq_true] at hB
    obtain ⟨⟨hr, hB1⟩, hB2⟩ := hB
    refine wpAnyH_all (rs := [i, j]) (by simpa using hr) (by simp) fun k hk => ?_
    have hk' : k = i ∨ k = j := by simpa using hk
    rcases hk' with rfl | rfl
    · exact one_sound (fun a w h hS => ihm fuel _ a w hf'.1 hB1 h hS) h.1 hS
    · exact one_sound (fun a w h hS => ihn fuel _ a w hf'.2 hB2 h hS) h.2 hS

theorem wp_region_tree {id : Nat} {a : Act} {w : World} {l : List Oper} (m : Sch) (S : World → Prop) (hm : P.follows .mixedOrders = true) (hB : (Region.noSelect l.toArray && treeOk l.toArray m (Array.replicate l.toArray.size false)) = true) (hlen : m.depth ≤ l.length)
    (hQ : ∀ c a d v w, Q (.panic c) (a.put d v) w → Q (.panic c) a w) (hS : S w.drew) (h : wpTree P l.toArray S Q m a w.drew) : (Code.region id l.toArray true).wp P Q a w := by
  simp only [Bool.and_eq_true] at hB
  obtain ⟨hs, hB⟩ := hB
  exact wp_region_held (S := S) hm (tree_sound hs hQ m l.toArray.size _ a w.drew (by simpa using hlen) hB h hS)
end
end Go.Proofs.YtmmmogccjopfeaaDoor.BytesW
