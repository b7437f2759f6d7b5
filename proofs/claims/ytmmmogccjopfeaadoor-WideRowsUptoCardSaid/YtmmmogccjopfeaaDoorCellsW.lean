/-
  Words for slices of one-cell values at this program, whatever the element's type: a slice value that reads as a list of values; a row of values that the call owns; append of one value, and of a slice. Conditions: in each statement.
-/
import Derived.Test.YtmmmogccjopfeaaDoorBytesW
namespace Go.Proofs.YtmmmogccjopfeaaDoor.CellsW
open Go.RowKit BytesW

/-- The slice value '.slice A xs.length c' reads as the values xs, below block B. -/
def Vs (w : World) (B : Nat) (A : Option Addr) (xs : List Value) : Prop :=
  0 < xs.length → ∃ ad, A = some ad ∧ ad.block < B ∧ ∀ (k : Nat) (h : k < xs.length), w.cell? (ad.add k) = some xs[k]

section
variable {w w' : World} {B B' : Nat} {A : Option Addr} {xs : List Value}

theorem Vs.nil (w : World) (B : Nat) (A : Option Addr) : Vs w B A [] := fun h => absurd h (by simp)

theorem Vs.at_ (h : Vs w B A xs) {k : Nat} (hk : k < xs.length) : ∃ ad, A = some ad ∧ ad.block < B ∧ w.cell? (ad.add k) = some xs[k] := by
  obtain ⟨ad, e, hb, hc⟩ := h (by omega)
  exact ⟨ad, e, hb, hc k hk⟩

theorem Vs.more (h : Vs w B A xs) (hB : B ≤ B') : Vs w B' A xs := by
  intro h0
  obtain ⟨ad, e, hlt, hc⟩ := h h0
  exact ⟨ad, e, by omega, hc⟩

theorem Vs.below (h : Vs w B A xs) (hb : Below B w w') : Vs w' B A xs := by
  intro h0
  obtain ⟨ad, e, hlt, hc⟩ := h h0
  exact ⟨ad, e, hlt, fun k hk => (hb.cell (by rw [add_block]; exact hlt)).trans (hc k hk)⟩

theorem Vs.take (h : Vs w B A xs) (n : Nat) : Vs w B A (xs.take n) := by
  intro h0
  rw [List.length_take] at h0
  obtain ⟨ad, e, hlt, hc⟩ := h (by omega)
  refine ⟨ad, e, hlt, fun k hk => ?_⟩
  rw [List.length_take] at hk
  rw [hc k (by omega), List.getElem_take]

theorem Vs.drop (h : Vs w B A xs) (n : Nat) : Vs w B (A.map (·.add n)) (xs.drop n) := by
  intro h0
  rw [List.length_drop] at h0
  obtain ⟨ad, e, hlt, hc⟩ := h (by omega)
  subst e
  refine ⟨ad.add n, rfl, by rw [add_block]; exact hlt, fun k hk => ?_⟩
  rw [List.length_drop] at hk
  rw [add_add, hc (n + k) (by omega), List.getElem_drop]

/-- A row of one-cell values that the call owns (its blocks: from B on), holding xs. -/
def VRow (te : TypeId) (B : Nat) (w : World) (v : Value) (xs : List Value) : Prop := w.ownsRow B te 1 v xs.length xs

variable {te : TypeId} {v : Value}
theorem VRow.nil (te : TypeId) (B : Nat) (w : World) : VRow te B w (.slice none 0 0) [] := World.ownsRow_nil w B _ 1
theorem VRow.alloc (h : VRow te B w v xs) (o : Obj) : VRow te B (w.alloc o) v xs := World.ownsRow.alloc h o
theorem VRow.drew (h : VRow te B w v xs) : VRow te B w.drew v xs := h
theorem VRow.below (h : VRow te B w v xs) (hb : Below w.heap.size w w') : VRow te B w' v xs :=
  World.ownsRow.kept (row := none) h ⟨hb.os, hb.tape, hb.output, hb.size, fun k hk _ => hb.block k hk⟩ (by cases hv : v.ownBlock <;> simp)

theorem VRow.form (h : VRow te B w v xs) : ∃ A c, v = .slice A xs.length c ∧ Vs w w.heap.size A xs ∧ xs.length ≤ c := by
  rcases h.2 with ⟨rfl, h0⟩ | ⟨g, cap, cur, rfl, hb, hg, hcap, rest⟩
  · exact ⟨none, 0, by rw [h0], fun h1 => by omega, by omega⟩
  · refine ⟨_, cap, rfl, fun _ => ⟨⟨g, 0, none⟩, rfl, (Array.getElem?_eq_some_iff.1 hg).1, fun k hk => ?_⟩, hcap⟩
    exact World.ownsRow.cells h (g := g) rfl k _ (List.getElem?_eq_getElem hk)

theorem new_cell (w : World) (u : Value) (te : TypeId) : (w.alloc (.cells #[u] te)).cell? ⟨w.heap.size, 0, none⟩ = some u := by
  unfold World.cell?
  simp only [heap_alloc_new]
  rfl
end

/-- 'append(v, u)' of one value to a row of the call's own. -/
theorem vapp1 {w : World} {ops : Array Oper} {rest : List Oper} {o : Oper} {a : Act} {Q : Exit → Act → World → Prop} (hgd : o.guard = none) (s x : Operand)
    (ts te : TypeId) (z : Value) (bytes : Nat) (hu : Tryd.prog.underlying ts = some (.slice te)) (hin : (Tryd.prog.info? te).map (fun i => (i.zero, i.size, i.bytes)) = some (some z, 1, bytes)) (hzs : z.cells.size = 1)
    (ho : o.op = .call { callee := .builtin .append, args := #[s, x], argTypes := #[ts, ts] })
    (B : Nat) (v : Value) (xs : List Value) (hs : a.eval s = v) (hown : VRow te B w v xs)
    (ad : Addr) (cp : Nat) (u : Value) (hx : a.eval x = .slice (some ad) 1 cp) (hc : w.cell? ad = some u) (hu1 : u.oneCell' = true)
    (hl : (xs.length + 1) * bytes ≤ 140737488355328) (hl2 : xs.length + 1 ≤ 140737488355328) (hB : B ≤ w.heap.size)
    (h : ∀ v' w', VRow te B w' v' (xs ++ [u]) → Below B w w' → wpList Tryd.prog ops Q rest (a.put o.dst v') w') : wpList Tryd.prog ops Q (o :: rest) a w := by
  obtain ⟨i0, hi, hz0, hz1, hz2⟩ := info_parts hin
  refine wpList_append_own w hgd s x ts ho B te i0 z 1 bytes hu hi hz0 hz1 hz2 hzs (by decide) v xs.length _ hs hown ad 1 cp [u] hx rfl ?_ ?_ (by unfold maxLen; omega) hl hB ?_
  · intro j y hj
    match j, hj with
    | 0, hj => simp at hj; subst hj; rw [add_zero]; exact hc
  · intro y hy; simp at hy; subst hy; exact hu1
  · intro v' w' h1 hg _
    refine h v' w' ?_ ((Below.refl B w).grown hg hB fun k hk => (World.ownsRow.lt hown k hk).1)
    unfold VRow
    rw [List.length_append]
    exact h1
end Go.Proofs.YtmmmogccjopfeaaDoor.CellsW
