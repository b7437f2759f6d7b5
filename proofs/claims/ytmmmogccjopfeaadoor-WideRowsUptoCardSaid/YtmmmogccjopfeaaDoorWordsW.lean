/-
  Words for slices of uint32 at this program: a slice value that reads as a list of words; a row of words that the call owns; append of one word. Conditions: in each statement.
-/
import Derived.Test.YtmmmogccjopfeaaDoorCellsW
import Derived.Laws.OwnMore
namespace Go.Proofs.YtmmmogccjopfeaaDoor.WordsW
open Go.RowKit BytesW CellsW

theorem infoWord : (Tryd.prog.info? 51).map (fun i => (i.zero, i.size, i.bytes)) = some (some (.int .u32 0), 1, 4) := by kernel_rfl

/-- Words as cells. -/
def wc (l : List Nat) : List Value := l.map fun (n : Nat) => .int .u32 (n : Int)
theorem wc_length (l : List Nat) : (wc l).length = l.length := by simp [wc]
theorem wc_append (a b : List Nat) : wc (a ++ b) = wc a ++ wc b := by simp [wc]
theorem wc_get (l : List Nat) (k : Nat) (h : k < l.length) (h' : k < (wc l).length) : (wc l)[k] = .int .u32 (l[k] : Int) := by simp [wc]

/-- The slice value '.slice A l.length c' reads as the words l, below block B. -/
def Us (w : World) (B : Nat) (A : Option Addr) (l : List Nat) : Prop :=
  0 < l.length → ∃ ad, A = some ad ∧ ad.block < B ∧ ∀ (k : Nat) (h : k < l.length), w.cell? (ad.add k) = some (.int .u32 (l[k] : Int))

section
variable {w w' : World} {B B' : Nat} {A : Option Addr} {l : List Nat} {v : Value}
theorem Us.nil (w : World) (B : Nat) (A : Option Addr) : Us w B A [] := fun h => absurd h (by simp)
theorem Us.at_ (h : Us w B A l) {k : Nat} (hk : k < l.length) : ∃ ad, A = some ad ∧ ad.block < B ∧ w.cell? (ad.add k) = some (.int .u32 (l[k] : Int)) := by
  obtain ⟨ad, e, hb, hc⟩ := h (by omega)
  exact ⟨ad, e, hb, hc k hk⟩
theorem Us.more (h : Us w B A l) (hB : B ≤ B') : Us w B' A l := by
  intro h0
  obtain ⟨ad, e, hlt, hc⟩ := h h0
  exact ⟨ad, e, by omega, hc⟩
theorem Us.below (h : Us w B A l) (hb : Below B w w') : Us w' B A l := by
  intro h0
  obtain ⟨ad, e, hlt, hc⟩ := h h0
  exact ⟨ad, e, hlt, fun k hk => (hb.cell (by rw [add_block]; exact hlt)).trans (hc k hk)⟩

/-- A row of words that the call owns (its blocks: from B on), holding l. -/
def URow (B : Nat) (w : World) (v : Value) (l : List Nat) : Prop := VRow 51 B w v (wc l)
theorem URow.nil (B : Nat) (w : World) : URow B w (.slice none 0 0) [] := VRow.nil _ B w
theorem URow.alloc (h : URow B w v l) (o : Obj) : URow B (w.alloc o) v l := VRow.alloc h o
theorem URow.drew (h : URow B w v l) : URow B w.drew v l := h
theorem URow.below (h : URow B w v l) (hb : Below w.heap.size w w') : URow B w' v l := VRow.below h hb
theorem URow.form (h : URow B w v l) : ∃ A c, v = .slice A l.length c ∧ Us w w.heap.size A l ∧ l.length ≤ c := by
  obtain ⟨A, c, rfl, hv, hc⟩ := VRow.form h
  rw [wc_length] at hc
  refine ⟨A, c, by rw [wc_length], ?_, hc⟩
  intro h0
  obtain ⟨ad, e, hlt, hcell⟩ := hv (by rw [wc_length]; exact h0)
  refine ⟨ad, e, hlt, fun k hk => ?_⟩
  have := hcell k (by rw [wc_length]; exact hk)
  rw [this, wc_get l k hk]

/-- 'append(v, n)' of one word, as the operation's own run. -/
theorem uapp1_wp {w : World} {o : Oper} {a : Act} {K : Act → World → Prop} {Q : Exit → Act → World → Prop} (s x : Operand)
    (ho : o.op = .call { callee := .builtin .append, args := #[s, x], argTypes := #[33, 33] })
    (B : Nat) (v : Value) (l : List Nat) (hs : a.eval s = v) (hown : URow B w v l)
    (ad : Addr) (cp : Nat) (n : Nat) (hx : a.eval x = .slice (some ad) 1 cp) (hc : w.cell? ad = some (.int .u32 (n : Int)))
    (hl : l.length + 1 ≤ 35184372088832) (hB : B ≤ w.heap.size)
    (h : ∀ v' w', URow B w' v' (l ++ [n]) → Below B w w' → K (a.put o.dst v') w') : o.wp Tryd.prog a w K Q := by
  obtain ⟨i0, hi, hz0, hz1, hz2⟩ := info_parts infoWord
  obtain ⟨v', w', hr, h1, hg, _⟩ := run_append_own (P := Tryd.prog) w B 33 o.type 51 i0 (.int .u32 0) 1 4 Tryd.underlying33 hi hz0 hz1 hz2 rfl (by decide) v (wc l).length (wc l) hown ad 1 cp [.int .u32 (n : Int)] rfl
    (fun j u hj => by
      match j, hj with
      | 0, hj => simp at hj; subst hj; rw [add_zero]; exact hc)
    (fun u hu => by simp at hu; subst hu; rfl) (by rw [wc_length]; unfold maxLen; omega) (by rw [wc_length]; omega) hB
  unfold Oper.wp execOp
  simp only [ho, resolve, invoke, builtin, Sem.run_bind, Sem.run_pure, Result.andThen_ok, List.map_toArray, List.map_cons, List.map_nil, hs, hx, hr]
  refine h v' w' ?_ ((Below.refl B w).grown hg hB fun k hk => (World.ownsRow.lt hown k hk).1)
  unfold URow VRow
  rw [wc_append, List.length_append]
  exact h1

/-- .. in a walk. -/
theorem uapp1 {w : World} {ops : Array Oper} {rest : List Oper} {o : Oper} {a : Act} {Q : Exit → Act → World → Prop} (hgd : o.guard = none) (s x : Operand)
    (ho : o.op = .call { callee := .builtin .append, args := #[s, x], argTypes := #[33, 33] })
    (B : Nat) (v : Value) (l : List Nat) (hs : a.eval s = v) (hown : URow B w v l)
    (ad : Addr) (cp : Nat) (n : Nat) (hx : a.eval x = .slice (some ad) 1 cp) (hc : w.cell? ad = some (.int .u32 (n : Int)))
    (hl : l.length + 1 ≤ 35184372088832) (hB : B ≤ w.heap.size)
    (h : ∀ v' w', URow B w' v' (l ++ [n]) → Below B w w' → wpList Tryd.prog ops Q rest (a.put o.dst v') w') : wpList Tryd.prog ops Q (o :: rest) a w :=
  wpList_plain hgd fun _ hK => uapp1_wp s x ho B v l hs hown ad cp n hx hc hl hB fun v' w' h1 h2 => hK _ _ (h v' w' h1 h2)

theorem newWord (w : World) (n : Nat) : (w.alloc (.cells #[.int .u32 (n : Int)] 51)).cell? ⟨w.heap.size, 0, none⟩ = some (.int .u32 (n : Int)) := new_cell w _ _
end
end Go.Proofs.YtmmmogccjopfeaaDoor.WordsW
