/-
  Several texts in one: BytesW, CellsW, WordsW, BytesX, RowsW. What each holds stands at its head. Conditions: in each statement.
-/
import Derived.Test.YtfngomlknhappaaDoorProg
import Derived.WalkKit
import Derived.Laws.BytesArg
import Derived.Lib.UnsafeStr
import Derived.Deep.Draws
import Derived.Laws.OwnMore
import Derived.BigFrame
import Derived.ArgAppend
import Derived.Deep.DeepAppendRoom

/-
  Words for byte slices at this program: a slice value that reads as a list of bytes; a row of bytes that the call owns; append of one byte; conversion to a string. Conditions: in each statement.
-/
namespace Go.Proofs.YtfngomlknhappaaDoor.BytesW
open Go.RowKit

theorem infoByte : (Tryd.prog.info? 5).map (fun i => (i.zero, i.size, i.bytes)) = some (some (.int .u8 0), 1, 1) := by kernel_rfl

theorem add_block (a : Addr) (n : Nat) : (a.add n).block = a.block := by unfold Addr.add; split <;> rfl
theorem add_zero (a : Addr) : a.add 0 = a := by simp [Addr.add]

/-- The slice value '.slice A l.length c' reads as the bytes l, below block B. -/
def Bs (w : World) (B : Nat) (A : Option Addr) (l : List UInt8) : Prop :=
  0 < l.length → ∃ ad, A = some ad ∧ ad.block < B ∧ ∀ (k : Nat) (h : k < l.length), w.cell? (ad.add k) = some (.int .u8 (l[k].toNat : Int))

section
variable {w w' : World} {B B' : Nat} {A : Option Addr} {l : List UInt8}

theorem Bs.nil (w : World) (B : Nat) (A : Option Addr) : Bs w B A [] := fun h => absurd h (by simp)

theorem Bs.at_ (h : Bs w B A l) {k : Nat} (hk : k < l.length) :
    ∃ ad, A = some ad ∧ ad.block < B ∧ w.cell? (ad.add k) = some (.int .u8 (l[k].toNat : Int)) := by
  obtain ⟨ad, e, hb, hc⟩ := h (by omega)
  exact ⟨ad, e, hb, hc k hk⟩

theorem Bs.more (h : Bs w B A l) (hB : B ≤ B') : Bs w B' A l := by
  intro h0
  obtain ⟨ad, e, hlt, hc⟩ := h h0
  exact ⟨ad, e, by omega, hc⟩

theorem Bs.below (h : Bs w B A l) (hb : Below B w w') : Bs w' B A l := by
  intro h0
  obtain ⟨ad, e, hlt, hc⟩ := h h0
  exact ⟨ad, e, hlt, fun k hk => (hb.cell (by rw [add_block]; exact hlt)).trans (hc k hk)⟩

theorem Bs.take (h : Bs w B A l) (n : Nat) : Bs w B A (l.take n) := by
  intro h0
  rw [List.length_take] at h0
  obtain ⟨ad, e, hlt, hc⟩ := h (by omega)
  refine ⟨ad, e, hlt, fun k hk => ?_⟩
  rw [List.length_take] at hk
  rw [hc k (by omega), List.getElem_take]

theorem add_add (a : Addr) (i j : Nat) : (a.add i).add j = a.add (i + j) := by
  unfold Addr.add
  by_cases hi : i = 0 <;> by_cases hj : j = 0 <;> simp [hi, hj, Nat.add_assoc]

theorem Bs.drop (h : Bs w B A l) (n : Nat) : Bs w B (A.map (·.add n)) (l.drop n) := by
  intro h0
  rw [List.length_drop] at h0
  obtain ⟨ad, e, hlt, hc⟩ := h (by omega)
  subst e
  refine ⟨ad.add n, rfl, by rw [add_block]; exact hlt, fun k hk => ?_⟩
  rw [List.length_drop] at hk
  rw [add_add, hc (n + k) (by omega), List.getElem_drop]

theorem Bs.cut (h : Bs w B A l) (n cap : Nat) (hc : l.length ≤ cap) : Bs w B (if cap = n then A else A.map (·.add n)) (l.drop n) := by
  by_cases e : cap = n
  · rw [if_pos e, List.drop_of_length_le (by omega)]; exact Bs.nil _ _ _
  · rw [if_neg e]; exact h.drop n

theorem Bs.drew (h : Bs w B A l) : Bs w.drew B A l := h

end

/-- A row of bytes that the call owns (its blocks: from B on), holding l. -/
def Row (B : Nat) (w : World) (v : Value) (l : List UInt8) : Prop := w.ownsRow B 5 1 v l.length (Lib.byteCells l)

section
variable {w w' : World} {B : Nat} {v : Value} {l : List UInt8}

theorem Row.nil (B : Nat) (w : World) : Row B w (.slice none 0 0) [] := World.ownsRow_nil w B _ 1
theorem Row.alloc (h : Row B w v l) (o : Obj) : Row B (w.alloc o) v l := World.ownsRow.alloc h o
theorem Row.drew (h : Row B w v l) : Row B w.drew v l := h
theorem Row.below (h : Row B w v l) (hb : Below w.heap.size w w') : Row B w' v l :=
  World.ownsRow.kept (row := none) h ⟨hb.os, hb.tape, hb.output, hb.size, fun k hk _ => hb.block k hk⟩ (by cases hv : v.ownBlock <;> simp)

theorem Row.form (h : Row B w v l) : ∃ A c, v = .slice A l.length c ∧ Bs w w.heap.size A l := by
  rcases h.2 with ⟨rfl, h0⟩ | ⟨g, cap, cur, rfl, hb, hg, rest⟩
  · exact ⟨none, 0, by rw [h0], fun h1 => by omega⟩
  · refine ⟨_, cap, rfl, fun _ => ⟨⟨g, 0, none⟩, rfl, (Array.getElem?_eq_some_iff.1 hg).1, fun k hk => ?_⟩⟩
    refine World.ownsRow.cells h (g := g) rfl k _ ?_
    simp [Lib.byteCells, List.getElem?_eq_getElem hk]

end

/-- A row without a place, as '[]byte{}' lays it. -/
theorem Row.empty (B : Nat) (w : World) (hB : B ≤ w.heap.size) : Row B (w.alloc (.cells #[] 5)) (.slice (some ⟨w.heap.size, 0, none⟩) 0 0) [] :=
  World.ownsRow_made w #[] 0 hB (by decide) rfl

theorem Row.made (B c : Nat) (u : World) (hB : B ≤ u.heap.size) (hc : c ≤ maxLen) : Row B (u.alloc (.cells (madeCells #[.int .u8 0] c) 5)) (.slice (some ⟨u.heap.size, 0, none⟩) 0 c) [] :=
  World.ownsRow_made u _ c hB hc (by simp [size_madeCells])

theorem new1 (w : World) (n : Int) (c : UInt8) (h : n = (c.toNat : Int)) : (w.alloc (.cells #[.int .u8 n] 5)).cell? ⟨w.heap.size, 0, none⟩ = some (.int .u8 (c.toNat : Int)) := by
  subst h
  unfold World.cell?
  simp only [heap_alloc_new]
  rfl

/-- A row of one byte that has just been laid, whatever its mark. -/
theorem Bs.lit (w : World) (c : UInt8) (n : Int) (hn : n = (c.toNat : Int)) (fz : Nat × Nat) (B : Nat) (hB : w.heap.size < B) : Bs (w.alloc (.cells #[.int .u8 n] 5 fz)) B (some ⟨w.heap.size, 0, none⟩) [c] := by
  subst hn
  intro _
  refine ⟨_, rfl, hB, fun k hk => ?_⟩
  obtain rfl : k = 0 := by simp at hk; omega
  rw [add_zero]
  unfold World.cell?
  simp only [heap_alloc_new]
  rfl

theorem drewN {B : Nat} {a w : World} (h : Below B a w) (n : Nat) : Below B a (w.drewN n) := h.trans ⟨rfl, rfl, rfl, Nat.le_refl _, fun _ _ => rfl⟩

theorem tup2 {k : IntKind} {a b : Int} {v : Value} (h : a = b) : Ending.returned (.tuple #[.int k a, v]) = Ending.returned (.tuple #[.int k b, v]) := by rw [h]
end Go.Proofs.YtfngomlknhappaaDoor.BytesW

/-
  Words for slices of one-cell values at this program, whatever the element's type: a slice value that reads as a list of values; a row of values that the call owns; append of one value, and of a slice. Conditions: in each statement.
-/
namespace Go.Proofs.YtfngomlknhappaaDoor.CellsW
open Go.RowKit BytesW

/-- The slice value '.slice A xs.length c' reads as the values xs, below block B. -/
def Vs (w : World) (B : Nat) (A : Option Addr) (xs : List Value) : Prop :=
  0 < xs.length → ∃ ad, A = some ad ∧ ad.block < B ∧ ∀ (k : Nat) (h : k < xs.length), w.cell? (ad.add k) = some xs[k]

section
variable {w w' : World} {B B' : Nat} {A : Option Addr} {xs : List Value}

theorem Vs.nil (w : World) (B : Nat) (A : Option Addr) : Vs w B A [] := fun h => absurd h (by simp)

theorem Vs.at_ (h : Vs w B A xs) {k : Nat} (hk : k < xs.length) : ∃ ad, A = some ad ∧ ad.block < B ∧ w.cell? (ad.add k) = some xs[k] := by
  obtain ⟨ad, e, hb, hc⟩ := h (by omega)
  exact ⟨ad, e, hb, hc k hk⟩

theorem Vs.more (h : Vs w B A xs) (hB : B ≤ B') : Vs w B' A xs := by
  intro h0
  obtain ⟨ad, e, hlt, hc⟩ := h h0
  exact ⟨ad, e, by omega, hc⟩

theorem Vs.below (h : Vs w B A xs) (hb : Below B w w') : Vs w' B A xs := by
  intro h0
  obtain ⟨ad, e, hlt, hc⟩ := h h0
  exact ⟨ad, e, hlt, fun k hk => (hb.cell (by rw [add_block]; exact hlt)).trans (hc k hk)⟩

theorem Vs.take (h : Vs w B A xs) (n : Nat) : Vs w B A (xs.take n) := by
  intro h0
  rw [List.length_take] at h0
  obtain ⟨ad, e, hlt, hc⟩ := h (by omega)
  refine ⟨ad, e, hlt, fun k hk => ?_⟩
  rw [List.length_take] at hk
  rw [hc k (by omega), List.getElem_take]

theorem Vs.drop (h : Vs w B A xs) (n : Nat) : Vs w B (A.map (·.add n)) (xs.drop n) := by
  intro h0
  rw [List.length_drop] at h0
  obtain ⟨ad, e, hlt, hc⟩ := h (by omega)
  subst e
  refine ⟨ad.add n, rfl, by rw [add_block]; exact hlt, fun k hk => ?_⟩
  rw [List.length_drop] at hk
  rw [add_add, hc (n + k) (by omega), List.getElem_drop]

/-- A row of one-cell values that the call owns (its blocks: from B on), holding xs. -/
def VRow (te : TypeId) (B : Nat) (w : World) (v : Value) (xs : List Value) : Prop := w.ownsRow B te 1 v xs.length xs

variable {te : TypeId} {v : Value}
theorem VRow.nil (te : TypeId) (B : Nat) (w : World) : VRow te B w (.slice none 0 0) [] := World.ownsRow_nil w B _ 1
theorem VRow.alloc (h : VRow te B w v xs) (o : Obj) : VRow te B (w.alloc o) v xs := World.ownsRow.alloc h o
theorem VRow.drew (h : VRow te B w v xs) : VRow te B w.drew v xs := h
theorem VRow.below (h : VRow te B w v xs) (hb : Below w.heap.size w w') : VRow te B w' v xs :=
  World.ownsRow.kept (row := none) h ⟨hb.os, hb.tape, hb.output, hb.size, fun k hk _ => hb.block k hk⟩ (by cases hv : v.ownBlock <;> simp)

theorem VRow.form (h : VRow te B w v xs) : ∃ A c, v = .slice A xs.length c ∧ Vs w w.heap.size A xs ∧ xs.length ≤ c := by
  rcases h.2 with ⟨rfl, h0⟩ | ⟨g, cap, cur, rfl, hb, hg, hcap, rest⟩
  · exact ⟨none, 0, by rw [h0], fun h1 => by omega, by omega⟩
  · refine ⟨_, cap, rfl, fun _ => ⟨⟨g, 0, none⟩, rfl, (Array.getElem?_eq_some_iff.1 hg).1, fun k hk => ?_⟩, hcap⟩
    exact World.ownsRow.cells h (g := g) rfl k _ (List.getElem?_eq_getElem hk)

theorem new_cell (w : World) (u : Value) (te : TypeId) : (w.alloc (.cells #[u] te)).cell? ⟨w.heap.size, 0, none⟩ = some u := by
  unfold World.cell?
  simp only [heap_alloc_new]
  rfl
end

/-- 'append(v, u)' of one value to a row of the call's own. -/
theorem vapp1 {w : World} {ops : Array Oper} {rest : List Oper} {o : Oper} {a : Act} {Q : Exit → Act → World → Prop} (hgd : o.guard = none) (s x : Operand)
    (ts te : TypeId) (z : Value) (bytes : Nat) (hu : Tryd.prog.underlying ts = some (.slice te)) (hin : (Tryd.prog.info? te).map (fun i => (i.zero, i.size, i.bytes)) = some (some z, 1, bytes)) (hzs : z.cells.size = 1)
    (ho : o.op = .call { callee := .builtin .append, args := #[s, x], argTypes := #[ts, ts] })
    (B : Nat) (v : Value) (xs : List Value) (hs : a.eval s = v) (hown : VRow te B w v xs)
    (ad : Addr) (cp : Nat) (u : Value) (hx : a.eval x = .slice (some ad) 1 cp) (hc : w.cell? ad = some u) (hu1 : u.oneCell' = true)
    (hl : (xs.length + 1) * bytes ≤ 140737488355328) (hl2 : xs.length + 1 ≤ 140737488355328) (hB : B ≤ w.heap.size)
    (h : ∀ v' w', VRow te B w' v' (xs ++ [u]) → Below B w w' → wpList Tryd.prog ops Q rest (a.put o.dst v') w') : wpList Tryd.prog ops Q (o :: rest) a w := by
  obtain ⟨i0, hi, hz0, hz1, hz2⟩ := info_parts hin
  refine wpList_append_own w hgd s x ts ho B te i0 z 1 bytes hu hi hz0 hz1 hz2 hzs (by decide) v xs.length _ hs hown ad 1 cp [u] hx rfl ?_ ?_ (by unfold maxLen; omega) hl hB ?_
  · intro j y hj
    match j, hj with
    | 0, hj => simp at hj; subst hj; rw [add_zero]; exact hc
  · intro y hy; simp at hy; subst hy; exact hu1
  · intro v' w' h1 hg _
    refine h v' w' ?_ ((Below.refl B w).grown hg hB fun k hk => (World.ownsRow.lt hown k hk).1)
    unfold VRow
    rw [List.length_append]
    exact h1
end Go.Proofs.YtfngomlknhappaaDoor.CellsW

/-
  Words for slices of uint32 at this program: a slice value that reads as a list of words; a row of words that the call owns; append of one word. Conditions: in each statement.
-/
namespace Go.Proofs.YtfngomlknhappaaDoor.WordsW
open Go.RowKit BytesW CellsW

theorem infoWord : (Tryd.prog.info? 57).map (fun i => (i.zero, i.size, i.bytes)) = some (some (.int .u32 0), 1, 4) := by kernel_rfl

/-- Words as cells. -/
def wc (l : List Nat) : List Value := l.map fun (n : Nat) => .int .u32 (n : Int)
theorem wc_length (l : List Nat) : (wc l).length = l.length := by simp [wc]
theorem wc_append (a b : List Nat) : wc (a ++ b) = wc a ++ wc b := by simp [wc]
theorem wc_get (l : List Nat) (k : Nat) (h : k < l.length) (h' : k < (wc l).length) : (wc l)[k] = .int .u32 (l[k] : Int) := by simp [wc]

/-- The slice value '.slice A l.length c' reads as the words l, below block B. -/
def Us (w : World) (B : Nat) (A : Option Addr) (l : List Nat) : Prop :=
  0 < l.length → ∃ ad, A = some ad ∧ ad.block < B ∧ ∀ (k : Nat) (h : k < l.length), w.cell? (ad.add k) = some (.int .u32 (l[k] : Int))

section
variable {w w' : World} {B B' : Nat} {A : Option Addr} {l : List Nat} {v : Value}
theorem Us.nil (w : World) (B : Nat) (A : Option Addr) : Us w B A [] := fun h => absurd h (by simp)
theorem Us.at_ (h : Us w B A l) {k : Nat} (hk : k < l.length) : ∃ ad, A = some ad ∧ ad.block < B ∧ w.cell? (ad.add k) = some (.int .u32 (l[k] : Int)) := by
  obtain ⟨ad, e, hb, hc⟩ := h (by omega)
  exact ⟨ad, e, hb, hc k hk⟩
theorem Us.more (h : Us w B A l) (hB : B ≤ B') : Us w B' A l := by
  intro h0
  obtain ⟨ad, e, hlt, hc⟩ := h h0
  exact ⟨ad, e, by omega, hc⟩
theorem Us.below (h : Us w B A l) (hb : Below B w w') : Us w' B A l := by
  intro h0
  obtain ⟨ad, e, hlt, hc⟩ := h h0
  exact ⟨ad, e, hlt, fun k hk => (hb.cell (by rw [add_block]; exact hlt)).trans (hc k hk)⟩

/-- A row of words that the call owns (its blocks: from B on), holding l. -/
def URow (B : Nat) (w : World) (v : Value) (l : List Nat) : Prop := VRow 57 B w v (wc l)
theorem URow.nil (B : Nat) (w : World) : URow B w (.slice none 0 0) [] := VRow.nil _ B w
theorem URow.alloc (h : URow B w v l) (o : Obj) : URow B (w.alloc o) v l := VRow.alloc h o
theorem URow.drew (h : URow B w v l) : URow B w.drew v l := h
theorem URow.below (h : URow B w v l) (hb : Below w.heap.size w w') : URow B w' v l := VRow.below h hb
theorem URow.form (h : URow B w v l) : ∃ A c, v = .slice A l.length c ∧ Us w w.heap.size A l ∧ l.length ≤ c := by
  obtain ⟨A, c, rfl, hv, hc⟩ := VRow.form h
  rw [wc_length] at hc
  refine ⟨A, c, by rw [wc_length], ?_, hc⟩
  intro h0
  obtain ⟨ad, e, hlt, hcell⟩ := hv (by rw [wc_length]; exact h0)
  refine ⟨ad, e, hlt, fun k hk => ?_⟩
  have := hcell k (by rw [wc_length]; exact hk)
  rw [this, wc_get l k hk]

/-- 'append(v, n)' of one word, as the operation's own run. -/
theorem uapp1_wp {w : World} {o : Oper} {a : Act} {K : Act → World → Prop} {Q : Exit → Act → World → Prop} (s x : Operand)
    (ho : o.op = .call { callee := .builtin .append, args := #[s, x], argTypes := #[32, 32] })
    (B : Nat) (v : Value) (l : List Nat) (hs : a.eval s = v) (hown : URow B w v l)
    (ad : Addr) (cp : Nat) (n : Nat) (hx : a.eval x = .slice (some ad) 1 cp) (hc : w.cell? ad = some (.int .u32 (n : Int)))
    (hl : l.length + 1 ≤ 35184372088832) (hB : B ≤ w.heap.size)
    (h : ∀ v' w', URow B w' v' (l ++ [n]) → Below B w w' → K (a.put o.dst v') w') : o.wp Tryd.prog a w K Q := by
  obtain ⟨i0, hi, hz0, hz1, hz2⟩ := info_parts infoWord
  obtain ⟨v', w', hr, h1, hg, _⟩ := run_append_own (P := Tryd.prog) w B 32 o.type 57 i0 (.int .u32 0) 1 4 Tryd.underlying32 hi hz0 hz1 hz2 rfl (by decide) v (wc l).length (wc l) hown ad 1 cp [.int .u32 (n : Int)] rfl
    (fun j u hj => by
      match j, hj with
      | 0, hj => simp at hj; subst hj; rw [add_zero]; exact hc)
    (fun u hu => by simp at hu; subst hu; rfl) (by rw [wc_length]; unfold maxLen; omega) (by rw [wc_length]; omega) hB
  unfold Oper.wp execOp
  simp only [ho, resolve, invoke, builtin, Sem.run_bind, Sem.run_pure, Result.andThen_ok, List.map_toArray, List.map_cons, List.map_nil, hs, hx, hr]
  refine h v' w' ?_ ((Below.refl B w).grown hg hB fun k hk => (World.ownsRow.lt hown k hk).1)
  unfold URow VRow
  rw [wc_append, List.length_append]
  exact h1

/-- .. in a walk. -/
theorem uapp1 {w : World} {ops : Array Oper} {rest : List Oper} {o : Oper} {a : Act} {Q : Exit → Act → World → Prop} (hgd : o.guard = none) (s x : Operand)
    (ho : o.op = .call { callee := .builtin .append, args := #[s, x], argTypes := #[32, 32] })
    (B : Nat) (v : Value) (l : List Nat) (hs : a.eval s = v) (hown : URow B w v l)
    (ad : Addr) (cp : Nat) (n : Nat) (hx : a.eval x = .slice (some ad) 1 cp) (hc : w.cell? ad = some (.int .u32 (n : Int)))
    (hl : l.length + 1 ≤ 35184372088832) (hB : B ≤ w.heap.size)
    (h : ∀ v' w', URow B w' v' (l ++ [n]) → Below B w w' → wpList Tryd.prog ops Q rest (a.put o.dst v') w') : wpList Tryd.prog ops Q (o :: rest) a w :=
  wpList_plain hgd fun _ hK => uapp1_wp s x ho B v l hs hown ad cp n hx hc hl hB fun v' w' h1 h2 => hK _ _ (h v' w' h1 h2)

theorem newWord (w : World) (n : Nat) : (w.alloc (.cells #[.int .u32 (n : Int)] 57)).cell? ⟨w.heap.size, 0, none⟩ = some (.int .u32 (n : Int)) := new_cell w _ _
end
end Go.Proofs.YtfngomlknhappaaDoor.WordsW

/-
  More words for byte slices at this program: append of one byte that keeps what was there; under a guard too. Conditions: in each statement.
-/
namespace Go.Proofs.YtfngomlknhappaaDoor.BytesW
open Go.RowKit

theorem byte_of (n : Int) (h0 : 0 ≤ n) (h1 : n ≤ 255) : ∃ y : UInt8, n = (y.toNat : Int) := ⟨UInt8.ofNat n.toNat, by rw [UInt8.toNat_ofNat']; omega⟩

/-- Where an owned row lies, and what is known of a place in it. -/
theorem Row.place {w : World} {B : Nat} {A : Option Addr} {n c : Nat} {l : List UInt8} (h : Row B w (.slice A n c) l) (h0 : 0 < l.length) :
    ∃ g, A = some ⟨g, 0, none⟩ ∧ n = l.length ∧ B ≤ g ∧ g < w.heap.size ∧ (∀ (k : Nat) (hk : k < l.length), w.cell? ⟨g, k, none⟩ = some (.int .u8 (l[k].toNat : Int))) ∧ (∀ k, w.frozen? ⟨g, k, none⟩ = false) := by
  have h' := h
  unfold Row at h
  rcases h.2 with ⟨_, h1⟩ | ⟨g, cap, cur, hv, hb, hg, _⟩
  · omega
  · cases hv
    refine ⟨g, rfl, rfl, hb, (Array.getElem?_eq_some_iff.1 hg).1, fun k hk => ?_, fun k => World.ownsRow.frozenAt h k⟩
    rw [World.ownsRow.cellAt h k (by omega)]
    simp [Lib.byteCells, List.getElem?_eq_getElem hk]

theorem Row.set {w : World} {B g c : Nat} {l : List UInt8} (h : Row B w (.slice (some ⟨g, 0, none⟩) l.length c) l) (k : Nat) (x : UInt8) (n : Int) (hn : n = (x.toNat : Int)) :
    Row B (w.setCell ⟨g, k, none⟩ (.int .u8 n)) (.slice (some ⟨g, 0, none⟩) (l.set k x).length c) (l.set k x) := by
  subst hn
  unfold Row at h ⊢
  have := (World.ownsRow.stored h k (.int .u8 (x.toNat : Int))).1
  rw [List.length_set]
  have e : Lib.byteCells (l.set k x) = (Lib.byteCells l).set k (.int .u8 (x.toNat : Int)) := by simp [Lib.byteCells, List.map_set]
  rw [e]
  exact this

theorem Row.form2 {w : World} {B : Nat} {v : Value} {l : List UInt8} (h : Row B w v l) : ∃ A c, v = .slice A l.length c ∧ Bs w w.heap.size A l ∧ l.length ≤ c := by
  obtain ⟨A, c, rfl, hb⟩ := h.form
  refine ⟨A, c, rfl, hb, ?_⟩
  unfold Row at h
  rcases h.2 with ⟨e, h0⟩ | ⟨g, cap, cur, e, _, _, hcap, _⟩
  · omega
  · cases e; omega

theorem cat_str (x y : List UInt8) : (⟨x.toArray⟩ ++ ⟨y.toArray⟩ : ByteArray) = ⟨(x ++ y).toArray⟩ := by
  apply ByteArray.ext
  simp

theorem Row.madeN (B c : Nat) (u : World) (hB : B ≤ u.heap.size) (hc : c ≤ maxLen) : Row B (u.alloc (.cells (madeCells #[.int .u8 0] c) 5)) (.slice (some ⟨u.heap.size, 0, none⟩) c c) (List.replicate c 0) := by
  have h := World.ownsRow_lit (base := B) (e := 5) (size := 1) u (madeCells #[.int .u8 0] c) c hB hc (by simp [size_madeCells])
  rw [toList_madeCells_one] at h
  unfold Row
  rw [List.length_replicate]
  have e : Lib.byteCells (List.replicate c 0) = List.replicate c (.int .u8 0) := by simp [Lib.byteCells]
  rw [e]
  exact h
/-- A store into a row whose length is written another way. -/
theorem Row.set2 {w : World} {B g k c : Nat} {l l' : List UInt8} (h : Row B w (.slice (some ⟨g, 0, none⟩) k c) l) (hk : l.length = k) (j : Nat) (x : UInt8) (n : Int) (hn : n = (x.toNat : Int)) (hl : l.set j x = l') :
    Row B (w.setCell ⟨g, j, none⟩ (.int .u8 n)) (.slice (some ⟨g, 0, none⟩) k c) l' := by
  subst hk; subst hl
  have := Row.set h j x n hn
  rw [List.length_set] at this
  exact this

theorem Row.at2 {w : World} {B g k c : Nat} {l : List UInt8} (h : Row B w (.slice (some ⟨g, 0, none⟩) k c) l) (j : Nat) (hj : j < l.length) :
    w.cell? ⟨g, j, none⟩ = some (.int .u8 (l[j].toNat : Int)) ∧ w.frozen? ⟨g, j, none⟩ = false := by
  obtain ⟨g', e, _, _, _, h1, h2⟩ := h.place (by omega)
  cases e
  exact ⟨h1 j hj, h2 j⟩

end Go.Proofs.YtfngomlknhappaaDoor.BytesW

/-
  Words for slices of byte slices at this program: a value that reads as a list of rows; a slice of rows that the call owns; append to it. Conditions: in each statement.
-/
namespace Go.Proofs.YtfngomlknhappaaDoor.RowsW
open Go.RowKit BytesW CellsW

/-- The slice value '.slice A ls.length c' reads as the rows ls, below block B. -/
def Ms (w : World) (B : Nat) (A : Option Addr) (ls : List (List UInt8)) : Prop :=
  0 < ls.length → ∃ ad, A = some ad ∧ ad.block < B ∧ ∀ (k : Nat) (h : k < ls.length), ∃ a c, w.cell? (ad.add k) = some (.slice a ls[k].length c) ∧ Bs w B a ls[k] ∧ ls[k].length ≤ c

section
variable {w w' : World} {B B' : Nat} {A : Option Addr} {ls : List (List UInt8)}

theorem Ms.nil (w : World) (B : Nat) (A : Option Addr) : Ms w B A [] := fun h => absurd h (by simp)

theorem Ms.at_ (h : Ms w B A ls) {k : Nat} (hk : k < ls.length) : ∃ ad a c, A = some ad ∧ ad.block < B ∧ w.cell? (ad.add k) = some (.slice a ls[k].length c) ∧ Bs w B a ls[k] ∧ ls[k].length ≤ c := by
  obtain ⟨ad, e, hb, hc⟩ := h (by omega)
  obtain ⟨a, c, h1, h2, h3⟩ := hc k hk
  exact ⟨ad, a, c, e, hb, h1, h2, h3⟩

theorem Ms.more (h : Ms w B A ls) (hB : B ≤ B') : Ms w B' A ls := by
  intro h0
  obtain ⟨ad, e, hlt, hc⟩ := h h0
  refine ⟨ad, e, by omega, fun k hk => ?_⟩
  obtain ⟨a, c, h1, h2, h3⟩ := hc k hk
  exact ⟨a, c, h1, h2.more hB, h3⟩

theorem Ms.below (h : Ms w B A ls) (hb : Below B w w') : Ms w' B A ls := by
  intro h0
  obtain ⟨ad, e, hlt, hc⟩ := h h0
  refine ⟨ad, e, hlt, fun k hk => ?_⟩
  obtain ⟨a, c, h1, h2, h3⟩ := hc k hk
  exact ⟨a, c, (hb.cell (by rw [add_block]; exact hlt)).trans h1, h2.below hb, h3⟩
end

/-- The value u reads as the bytes l, apart from the row that v owns. -/
def El (w : World) (v u : Value) (l : List UInt8) : Prop := ∃ a c, u = .slice a l.length c ∧ l.length ≤ c ∧ Bs w w.heap.size a l ∧ (0 < l.length → ∀ ad, a = some ad → v.ownBlock ≠ some ad.block)
def Es (w : World) (v : Value) (us : List Value) (ls : List (List UInt8)) : Prop := us.length = ls.length ∧ ∀ (k : Nat) u l, us[k]? = some u → ls[k]? = some l → El w v u l

theorem Es.append {w : World} {v : Value} {us us' : List Value} {ls ls' : List (List UInt8)} (h : Es w v us ls) (h' : Es w v us' ls') : Es w v (us ++ us') (ls ++ ls') := by
  refine ⟨by rw [List.length_append, List.length_append, h.1, h'.1], fun k u l hu hl => ?_⟩
  by_cases hk : k < us.length
  · rw [List.getElem?_append_left hk] at hu
    rw [List.getElem?_append_left (by rw [← h.1]; exact hk)] at hl
    exact h.2 k u l hu hl
  · rw [List.getElem?_append_right (by omega)] at hu
    rw [List.getElem?_append_right (by rw [← h.1]; omega), ← h.1] at hl
    exact h'.2 _ u l hu hl

theorem Es.one {w : World} {v u : Value} {l : List UInt8} (h : El w v u l) : Es w v [u] [l] := by
  refine ⟨rfl, fun k u' l' hu hl => ?_⟩
  match k, hu, hl with
  | 0, hu, hl => simp at hu hl; subst hu; subst hl; exact h

theorem El.grown {w w' : World} {v v' u : Value} {l : List UInt8} (h : El w v u l) (hg : w.grownBy w' v.ownBlock) (hv : ∀ k, v'.ownBlock = some k → v.ownBlock = some k ∨ w.heap.size ≤ k) : El w' v' u l := by
  obtain ⟨a, c, rfl, hc, hb, hp⟩ := h
  refine ⟨a, c, rfl, hc, ?_, ?_⟩
  · intro h0
    obtain ⟨ad, rfl, hlt, hcell⟩ := hb h0
    refine ⟨ad, rfl, Nat.lt_of_lt_of_le hlt hg.size, fun k hk => hg.cell (hcell k hk) ?_⟩
    rw [add_block]
    exact fun e => hp h0 ad rfl e.symm
  · intro h0 ad hd
    obtain ⟨ad', hd', hlt, _⟩ := hb h0
    rw [hd] at hd'
    cases hd'
    intro e
    rcases hv _ e with h1 | h1
    · exact hp h0 ad hd h1
    · omega

theorem El.below {w w' : World} {v u : Value} {l : List UInt8} (h : El w v u l) (hb : Below w.heap.size w w') : El w' v u l := by
  obtain ⟨a, c, rfl, hc, hs, hp⟩ := h
  exact ⟨a, c, rfl, hc, (hs.below hb).more hb.size, hp⟩
theorem Es.below {w w' : World} {v : Value} {us : List Value} {ls : List (List UInt8)} (h : Es w v us ls) (hb : Below w.heap.size w w') : Es w' v us ls :=
  ⟨h.1, fun k u l hu hl => (h.2 k u l hu hl).below hb⟩

theorem run_mapp (w : World) (B : Nat) (ts ty te : TypeId) (z : Value) (bytes : Nat) (hu : Tryd.prog.underlying ts = some (.slice te)) (hin : (Tryd.prog.info? te).map (fun i => (i.zero, i.size, i.bytes)) = some (some z, 1, bytes)) (hzs : z.cells.size = 1)
    (v : Value) (xs : List Value) (hown : VRow te B w v xs) (ad : Addr) (m cp : Nat) (us : List Value) (hm : us.length = m) (hc : ∀ (j : Nat) u, us[j]? = some u → w.cell? (ad.add j) = some u) (h1 : ∀ u ∈ us, u.oneCell' = true)
    (hl : (xs.length + m) * bytes ≤ 140737488355328) (hl2 : xs.length + m ≤ 140737488355328) (hB : B ≤ w.heap.size) :
    ∃ v' w', (Builtin.append_ #[ts, ts] ty #[v, .slice (some ad) m cp]).run Tryd.prog w = .ok v' w' ∧ VRow te B w' v' (xs ++ us) ∧ w.grownBy w' v.ownBlock ∧ (∀ k, v'.ownBlock = some k → v.ownBlock = some k ∨ w.heap.size ≤ k) := by
  obtain ⟨i0, hi, hz0, hz1, hz2⟩ := info_parts hin
  have hown' := hown
  unfold VRow at hown
  have fin : ∀ (w' : World) (v' : Value) (B' : Nat), B ≤ B' → w'.ownsRow B' te 1 v' (xs.length + m) (xs ++ us) → VRow te B w' v' (xs ++ us) := by
    intro w' v' B' hB' h
    unfold VRow
    rw [List.length_append, hm]
    refine ⟨h.1, ?_⟩
    rcases h.2 with h5 | ⟨g', cap', cur', he, hb', hrest⟩
    · exact .inl h5
    · exact .inr ⟨g', cap', cur', he, Nat.le_trans hB' hb', hrest⟩
  rcases hown.2 with ⟨rfl, h0⟩ | ⟨g, cap, cur, rfl, hbg, hg, hnc, hcm, hcs, htake⟩
  · have hx : xs = [] := List.eq_nil_of_length_eq_zero h0
    subst hx
    obtain ⟨v', w', hr, h2, h3, _⟩ := run_append_own (P := Tryd.prog) w w.heap.size ts ty te i0 z 1 bytes hu hi hz0 hz1 hz2 hzs (by decide) (.slice none 0 0) 0 [] (World.ownsRow_nil _ _ _ _) ad m cp us (by rw [hm, Nat.mul_one]) hc h1 (by unfold maxLen; simp at hl2 ⊢; omega) (by simpa using hl) (Nat.le_refl _)
    refine ⟨v', w', hr, fin _ _ _ hB (by simpa using h2), h3, fun k hk => .inr (World.ownsRow.lt h2 k hk).1⟩
  · by_cases hroom : xs.length + m ≤ cap
    · obtain ⟨w', hr, h2, h3⟩ := run_append_own_spare (P := Tryd.prog) w B ts ty te i0 1 hu hi hz1 g xs.length cap _ hown ad m cp us (by rw [hm, Nat.mul_one]) hc h1 hroom
      exact ⟨_, w', hr, fin _ _ _ (Nat.le_refl _) h2, h3, fun k hk => .inl (by simpa [Value.ownBlock] using hk)⟩
    · have hcells := World.ownsRow.cells hown (g := g) rfl
      obtain ⟨v', w', hr, h2, h3⟩ := run_append_arg_grows (P := Tryd.prog) w ts ty te i0 z 1 bytes hu hi hz0 hz1 hz2 hzs (by decide) ⟨g, 0, none⟩ xs.length cap _ hown.1 hcells ad m cp us (by rw [hm, Nat.mul_one]) hc (by omega) (by unfold maxLen; omega) hl
      exact ⟨v', w', hr, fin _ _ _ hB h2, ⟨h3.os, h3.tape, h3.output, h3.size, fun k hk _ => h3.block k hk (by simp)⟩, fun k hk => .inr (World.ownsRow.lt h2 k hk).1⟩

theorem run_mapp_nil (w : World) (B : Nat) (ts ty te : TypeId) (z : Value) (bytes : Nat) (hu : Tryd.prog.underlying ts = some (.slice te)) (hin : (Tryd.prog.info? te).map (fun i => (i.zero, i.size, i.bytes)) = some (some z, 1, bytes))
    (v : Value) (xs : List Value) (hown : VRow te B w v xs) (c : Nat) : (Builtin.append_ #[ts, ts] ty #[v, .slice none 0 c]).run Tryd.prog w = .ok v w := by
  obtain ⟨i0, hi, hz0, hz1, hz2⟩ := info_parts hin
  unfold VRow at hown
  generalize hn : xs.length = n at hown
  clear hn
  rcases hown.2 with ⟨rfl, rfl⟩ | ⟨g, cap, cur, rfl, _, _, hcap, _⟩
  · simp [Builtin.append_, run_underlying hu, sizeOf, typeInfo, hi, Builtin.lenOf, Builtin.firstCells]
  · simp [Builtin.append_, run_underlying hu, sizeOf, typeInfo, hi, Builtin.lenOf, Builtin.firstCells, hcap, storeCells]

theorem El.behind {w w' : World} {v u : Value} {l : List UInt8} {n c : Nat} (h : El w v u l) (hb : Below w.heap.size w w') : El w' (.slice (some ⟨w.heap.size, 0, none⟩) n c) u l := by
  obtain ⟨a, c', rfl, hc, hs, _⟩ := h
  refine ⟨a, c', rfl, hc, (hs.below hb).more hb.size, fun h0 ad hd e => ?_⟩
  obtain ⟨ad', hd', hlt, _⟩ := hs h0
  rw [hd] at hd'
  cases hd'
  simp [Value.ownBlock] at e
  omega
theorem Es.behind {w w' : World} {v : Value} {us : List Value} {ls : List (List UInt8)} {n c : Nat} (h : Es w v us ls) (hb : Below w.heap.size w w') : Es w' (.slice (some ⟨w.heap.size, 0, none⟩) n c) us ls :=
  ⟨h.1, fun k u l hu hl => (h.2 k u l hu hl).behind hb⟩

theorem ownsRow_base {w : World} {B B' : Nat} {te : TypeId} {k n : Nat} {v : Value} {xs : List Value} (h : w.ownsRow B' te k v n xs) (hB : B ≤ B') : w.ownsRow B te k v n xs := by
  refine ⟨h.1, ?_⟩
  rcases h.2 with h5 | ⟨g', cap', cur', he, hb', hrest⟩
  · exact .inl h5
  · exact .inr ⟨g', cap', cur', he, Nat.le_trans hB hb', hrest⟩
theorem _root_.Go.Proofs.YtfngomlknhappaaDoor.BytesW.Row.base {w : World} {B B' : Nat} {v : Value} {l : List UInt8} (h : Row B' w v l) (hB : B ≤ B') : Row B w v l := ownsRow_base h hB
/-- A row of one byte that has just been laid is the call's own. -/
theorem Row.lit (B : Nat) (w : World) (n : Int) (c : UInt8) (hn : n = (c.toNat : Int)) (hB : B ≤ w.heap.size) : Row B (w.alloc (.cells #[.int .u8 n] 5)) (.slice (some ⟨w.heap.size, 0, none⟩) 1 1) [c] := by
  subst hn
  exact ⟨rfl, .inr ⟨w.heap.size, 1, _, rfl, hB, heap_alloc_new w _, Nat.le_refl _, by unfold maxLen; omega, rfl, rfl⟩⟩

end Go.Proofs.YtfngomlknhappaaDoor.RowsW
