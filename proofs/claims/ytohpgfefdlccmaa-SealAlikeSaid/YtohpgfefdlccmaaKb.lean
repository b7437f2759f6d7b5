/-
  Several texts in one: BytesW, CellsW, WordsW, BytesX, RowsW, TwoRows. What each holds stands at its head. Conditions: in each statement.
-/
import Derived.Test.YtohpgfefdlccmaaProg
import Derived.WalkKit
import Derived.Laws.BytesArg
import Derived.Lib.UnsafeStr
import Derived.Deep.Draws
import Derived.Laws.OwnMore
import Derived.BigFrame
import Derived.ArgAppend
import Derived.Deep.DeepAppendRoom

/-
  Words for byte slices at this program: a slice value that reads as a list of bytes; a row of bytes that the call owns; append of one byte; conversion to a string. Conditions: in each statement.
-/
namespace Go.Proofs.Ytohpgfefdlccmaa.BytesW
open Go.RowKit

theorem infoByte : (Try.prog.info? 5).map (fun i => (i.zero, i.size, i.bytes)) = some (some (.int .u8 0), 1, 1) := by kernel_rfl

theorem add_block (a : Addr) (n : Nat) : (a.add n).block = a.block := by unfold Addr.add; split <;> rfl
theorem add_zero (a : Addr) : a.add 0 = a := by simp [Addr.add]

/-- The slice value '.slice A l.length c' reads as the bytes l, below block B. -/
def Bs (w : World) (B : Nat) (A : Option Addr) (l : List UInt8) : Prop :=
  0 < l.length → ∃ ad, A = some ad ∧ ad.block < B ∧ ∀ (k : Nat) (h : k < l.length), w.cell? (ad.add k) = some (.int .u8 (l[k].toNat : Int))

section
variable {w w' : World} {B B' : Nat} {A : Option Addr} {l : List UInt8}

theorem Bs.nil (w : World) (B : Nat) (A : Option Addr) : Bs w B A [] := fun h => absurd h (by simp)

theorem Bs.at_ (h : Bs w B A l) {k : Nat} (hk : k < l.length) :
    ∃ ad, A = some ad ∧ ad.block < B ∧ w.cell? (ad.add k) = some (.int .u8 (l[k].toNat : Int)) := by
  obtain ⟨ad, e, hb, hc⟩ := h (by omega)
  exact ⟨ad, e, hb, hc k hk⟩

theorem Bs.more (h : Bs w B A l) (hB : B ≤ B') : Bs w B' A l := by
  intro h0
  obtain ⟨ad, e, hlt, hc⟩ := h h0
  exact ⟨ad, e, by omega, hc⟩

theorem Bs.below (h : Bs w B A l) (hb : Below B w w') : Bs w' B A l := by
  intro h0
  obtain ⟨ad, e, hlt, hc⟩ := h h0
  exact ⟨ad, e, hlt, fun k hk => (hb.cell (by rw [add_block]; exact hlt)).trans (hc k hk)⟩

theorem Bs.take (h : Bs w B A l) (n : Nat) : Bs w B A (l.take n) := by
  intro h0
  rw [List.length_take] at h0
  obtain ⟨ad, e, hlt, hc⟩ := h (by omega)
  refine ⟨ad, e, hlt, fun k hk => ?_⟩
  rw [List.length_take] at hk
  rw [hc k (by omega), List.getElem_take]

theorem add_add (a : Addr) (i j : Nat) : (a.add i).add j = a.add (i + j) := by
  unfold Addr.add
  by_cases hi : i = 0 <;> by_cases hj : j = 0 <;> simp [hi, hj, Nat.add_assoc]

theorem Bs.drop (h : Bs w B A l) (n : Nat) : Bs w B (A.map (·.add n)) (l.drop n) := by
  intro h0
  rw [List.length_drop] at h0
  obtain ⟨ad, e, hlt, hc⟩ := h (by omega)
  subst e
  refine ⟨ad.add n, rfl, by rw [add_block]; exact hlt, fun k hk => ?_⟩
  rw [List.length_drop] at hk
  rw [add_add, hc (n + k) (by omega), List.getElem_drop]

theorem Bs.cut (h : Bs w B A l) (n cap : Nat) (hc : l.length ≤ cap) : Bs w B (if cap = n then A else A.map (·.add n)) (l.drop n) := by
  by_cases e : cap = n
  · rw [if_pos e, List.drop_of_length_le (by omega)]; exact Bs.nil _ _ _
  · rw [if_neg e]; exact h.drop n

theorem Bs.drew (h : Bs w B A l) : Bs w.drew B A l := h

theorem Bs.conv (h : Bs w B A l) (c : Nat) :
    (convert 22 9 (.slice A l.length c)).run Try.prog w = .ok (.string ⟨l.toArray⟩) w := by
  cases A with
  | none =>
    have hl : l = [] := by
      cases l with
      | nil => rfl
      | cons x r => obtain ⟨ad, e, _⟩ := h (by simp); cases e
    subst hl
    exact run_convert_bytes_nil w 22 5 Try.underlying22 Try.underlying5 _ c _ Try.underlying9
  | some ad =>
    have hc : ∀ (k : Nat) (hk : k < l.length), w.cell? (ad.add k) = some (.int .u8 (l[k].toNat : Int)) := by
      intro k hk
      obtain ⟨ad', e, _, hc⟩ := h.at_ hk
      cases e
      exact hc
    have hload : (loadCells ad l.length).run Try.prog w = .ok ((l.map fun b => (b.toNat : Int)).map (Value.int .u8)).toArray w := by
      have := run_loadCells_list (P := Try.prog) w ad ((l.map fun b => (b.toNat : Int)).map (Value.int .u8)) (fun j v hj => by
        have hjl : j < l.length := by
          rcases Nat.lt_or_ge j l.length with h | h
          · exact h
          · simp [h] at hj
        rw [hc j hjl]
        simpa [List.getElem?_eq_getElem hjl] using hj)
      simpa using this
    rw [run_convert_bytes_string w 22 9 5 _ l.length c Try.underlying22 Try.underlying5 Try.underlying9, run_bytesToString w _ l.length c _ hload, foldl_push_bytes]
    have : (l.map fun b => (b.toNat : Int)).map (fun n => UInt8.ofNat n.toNat) = l := by
      rw [List.map_map]
      conv => rhs; rw [← List.map_id l]
      exact List.map_congr_left fun x _ => by simp
    rw [this]
    simp [ByteArray.empty, ByteArray.emptyWithCapacity]
    rfl
end

/-- A row of bytes that the call owns (its blocks: from B on), holding l. -/
def Row (B : Nat) (w : World) (v : Value) (l : List UInt8) : Prop := w.ownsRow B 5 1 v l.length (Lib.byteCells l)

section
variable {w w' : World} {B : Nat} {v : Value} {l : List UInt8}

theorem Row.nil (B : Nat) (w : World) : Row B w (.slice none 0 0) [] := World.ownsRow_nil w B _ 1
theorem Row.alloc (h : Row B w v l) (o : Obj) : Row B (w.alloc o) v l := World.ownsRow.alloc h o
theorem Row.drew (h : Row B w v l) : Row B w.drew v l := h
theorem Row.below (h : Row B w v l) (hb : Below w.heap.size w w') : Row B w' v l :=
  World.ownsRow.kept (row := none) h ⟨hb.os, hb.tape, hb.output, hb.size, fun k hk _ => hb.block k hk⟩ (by cases hv : v.ownBlock <;> simp)

theorem Row.form (h : Row B w v l) : ∃ A c, v = .slice A l.length c ∧ Bs w w.heap.size A l := by
  rcases h.2 with ⟨rfl, h0⟩ | ⟨g, cap, cur, rfl, hb, hg, rest⟩
  · exact ⟨none, 0, by rw [h0], fun h1 => by omega⟩
  · refine ⟨_, cap, rfl, fun _ => ⟨⟨g, 0, none⟩, rfl, (Array.getElem?_eq_some_iff.1 hg).1, fun k hk => ?_⟩⟩
    refine World.ownsRow.cells h (g := g) rfl k _ ?_
    simp [Lib.byteCells, List.getElem?_eq_getElem hk]

/-- 'append(v, c)' of one byte to a row of the call's own. -/
theorem app1 {w : World} {ops : Array Oper} {rest : List Oper} {o : Oper} {a : Act} {Q : Exit → Act → World → Prop} (hgd : o.guard = none) (s x : Operand)
    (ho : o.op = .call { callee := .builtin .append, args := #[s, x], argTypes := #[22, 22] })
    (B : Nat) (v : Value) (l : List UInt8) (hs : a.eval s = v) (hown : Row B w v l)
    (ad : Addr) (cp : Nat) (c : UInt8) (hx : a.eval x = .slice (some ad) 1 cp) (hc : w.cell? ad = some (.int .u8 (c.toNat : Int)))
    (hl : l.length + 1 ≤ 140737488355328) (hB : B ≤ w.heap.size)
    (h : ∀ v' w', Row B w' v' (l ++ [c]) → Below B w w' → wpList Try.prog ops Q rest (a.put o.dst v') w') : wpList Try.prog ops Q (o :: rest) a w := by
  obtain ⟨i0, hi, hz0, hz1, hz2⟩ := info_parts infoByte
  refine wpList_append_own w hgd s x 22 ho B 5 i0 (.int .u8 0) 1 1 Try.underlying22 hi hz0 hz1 hz2 rfl (by decide) v l.length _ hs hown ad 1 cp [.int .u8 (c.toNat : Int)] hx rfl ?_ ?_ (by unfold maxLen; omega) (by omega) hB ?_
  · intro j u hj
    match j, hj with
    | 0, hj => simp at hj; subst hj; rw [add_zero]; exact hc
  · intro u hu; simp at hu; subst hu; rfl
  · intro v' w' h1 hg _
    refine h v' w' ?_ ((Below.refl B w).grown hg hB fun k hk => (World.ownsRow.lt hown k hk).1)
    unfold Row
    rw [Lib.byteCells_append]
    simpa [Lib.byteCells] using h1
end

theorem run_app_nil (w : World) (B : Nat) (ty : TypeId) (v : Value) (l : List UInt8) (hown : Row B w v l) (c : Nat) :
    (Builtin.append_ #[22, 22] ty #[v, .slice none 0 c]).run Try.prog w = .ok v w := by
  obtain ⟨i0, hi, hz0, hz1, hz2⟩ := info_parts infoByte
  unfold Row at hown
  generalize l.length = n at hown
  generalize Lib.byteCells l = xs at hown
  rcases hown.2 with ⟨rfl, rfl⟩ | ⟨g, cap, cur, rfl, _, _, hcap, _⟩
  · simp [Builtin.append_, run_underlying Try.underlying22, sizeOf, typeInfo, hi, Builtin.lenOf, Builtin.firstCells]
  · simp [Builtin.append_, run_underlying Try.underlying22, sizeOf, typeInfo, hi, Builtin.lenOf, Builtin.firstCells, hcap, storeCells]

/-- 'append(v, s...)' of a slice that reads as bytes, nil let in, to a row of the call's own. -/
theorem appN {w : World} {ops : Array Oper} {rest : List Oper} {o : Oper} {a : Act} {Q : Exit → Act → World → Prop} (hgd : o.guard = none) (s x : Operand)
    (ho : o.op = .call { callee := .builtin .append, args := #[s, x], argTypes := #[22, 22] })
    (B N : Nat) (v : Value) (l : List UInt8) (hs : a.eval s = v) (hown : Row B w v l)
    (A : Option Addr) (m : List UInt8) (cp : Nat) (hx : a.eval x = .slice A m.length cp) (hm : Bs w N A m)
    (hl : l.length + m.length ≤ 140737488355328) (hB : B ≤ w.heap.size)
    (h : ∀ v' w', Row B w' v' (l ++ m) → Below B w w' → wpList Try.prog ops Q rest (a.put o.dst v') w') : wpList Try.prog ops Q (o :: rest) a w := by
  cases A with
  | none =>
    have hm0 : m = [] := by
      cases m with
      | nil => rfl
      | cons y r => obtain ⟨ad, e, _⟩ := hm (by simp); cases e
    subst hm0
    refine wpList_plain hgd fun K hK => ?_
    unfold Oper.wp execOp
    simp only [ho, resolve, invoke, builtin, Sem.run_bind, Sem.run_pure, Result.andThen_ok, List.map_toArray, List.map_cons, List.map_nil, hs, hx, List.length_nil, run_app_nil w B o.type v l hown cp]
    exact hK _ _ (h v w (by simpa using hown) (Below.refl _ _))
  | some ad =>
    obtain ⟨i0, hi, hz0, hz1, hz2⟩ := info_parts infoByte
    refine wpList_append_own w hgd s x 22 ho B 5 i0 (.int .u8 0) 1 1 Try.underlying22 hi hz0 hz1 hz2 rfl (by decide) v l.length _ hs hown ad m.length cp (Lib.byteCells m) hx (by rw [Lib.byteCells_length, Nat.mul_one]) ?_ ?_ (by unfold maxLen; omega) (by omega) hB ?_
    · intro j u hj
      have hjl : j < m.length := by
        rcases Nat.lt_or_ge j m.length with h | h
        · exact h
        · simp [Lib.byteCells, h] at hj
      obtain ⟨ad', e, _, hc⟩ := hm.at_ hjl
      cases e
      rw [hc]
      simpa [Lib.byteCells, List.getElem?_eq_getElem hjl] using hj
    · intro u hu
      simp only [Lib.byteCells, List.mem_map] at hu
      obtain ⟨b, _, rfl⟩ := hu
      rfl
    · intro v' w' h1 hg _
      refine h v' w' ?_ ((Below.refl B w).grown hg hB fun k hk => (World.ownsRow.lt hown k hk).1)
      unfold Row
      rw [Lib.byteCells_append, List.length_append]
      exact h1

/-- A row without a place, as '[]byte{}' lays it. -/
theorem Row.empty (B : Nat) (w : World) (hB : B ≤ w.heap.size) : Row B (w.alloc (.cells #[] 5)) (.slice (some ⟨w.heap.size, 0, none⟩) 0 0) [] :=
  World.ownsRow_made w #[] 0 hB (by decide) rfl

/-- 'make([]byte, 0, c)'. -/
theorem make0 (c : Nat) (hc : c ≤ 140737488355328) (u : World) : (Instr.makeSlice 22 (.int .i64 0) (.int .i64 (c : Int))).run Try.prog u =
    .ok (.slice (some ⟨u.heap.size, 0, none⟩) 0 c) (u.alloc (.cells (madeCells #[.int .u8 0] c) 5)) := by
  obtain ⟨i0, hi, hz0, hz1, hz2⟩ := info_parts infoByte
  have h := run_make (P := Try.prog) u 22 5 i0 (.int .u8 0) Try.underlying22 hi hz0 .i64 .i64 0 (c : Int) (by omega) (by omega) (by rw [hz2]; omega) (by omega)
  simpa [hz1, Value.cells] using h

theorem Row.made (B c : Nat) (u : World) (hB : B ≤ u.heap.size) (hc : c ≤ maxLen) : Row B (u.alloc (.cells (madeCells #[.int .u8 0] c) 5)) (.slice (some ⟨u.heap.size, 0, none⟩) 0 c) [] :=
  World.ownsRow_made u _ c hB hc (by simp [size_madeCells])

theorem new1 (w : World) (n : Int) (c : UInt8) (h : n = (c.toNat : Int)) : (w.alloc (.cells #[.int .u8 n] 5)).cell? ⟨w.heap.size, 0, none⟩ = some (.int .u8 (c.toNat : Int)) := by
  subst h
  unfold World.cell?
  simp only [heap_alloc_new]
  rfl

/-- A row of one byte that has just been laid, whatever its mark. -/
theorem Bs.lit (w : World) (c : UInt8) (n : Int) (hn : n = (c.toNat : Int)) (fz : Nat × Nat) (B : Nat) (hB : w.heap.size < B) : Bs (w.alloc (.cells #[.int .u8 n] 5 fz)) B (some ⟨w.heap.size, 0, none⟩) [c] := by
  subst hn
  intro _
  refine ⟨_, rfl, hB, fun k hk => ?_⟩
  obtain rfl : k = 0 := by simp at hk; omega
  rw [add_zero]
  unfold World.cell?
  simp only [heap_alloc_new]
  rfl

theorem drewN {B : Nat} {a w : World} (h : Below B a w) (n : Nat) : Below B a (w.drewN n) := h.trans ⟨rfl, rfl, rfl, Nat.le_refl _, fun _ _ => rfl⟩

theorem tup2 {k : IntKind} {a b : Int} {v : Value} (h : a = b) : Ending.returned (.tuple #[.int k a, v]) = Ending.returned (.tuple #[.int k b, v]) := by rw [h]
end Go.Proofs.Ytohpgfefdlccmaa.BytesW

/-
  Words for slices of one-cell values at this program, whatever the element's type: a slice value that reads as a list of values; a row of values that the call owns; append of one value, and of a slice. Conditions: in each statement.
-/
namespace Go.Proofs.Ytohpgfefdlccmaa.CellsW
open Go.RowKit BytesW

/-- The slice value '.slice A xs.length c' reads as the values xs, below block B. -/
def Vs (w : World) (B : Nat) (A : Option Addr) (xs : List Value) : Prop :=
  0 < xs.length → ∃ ad, A = some ad ∧ ad.block < B ∧ ∀ (k : Nat) (h : k < xs.length), w.cell? (ad.add k) = some xs[k]

section
variable {w w' : World} {B B' : Nat} {A : Option Addr} {xs : List Value}

theorem Vs.nil (w : World) (B : Nat) (A : Option Addr) : Vs w B A [] := fun h => absurd h (by simp)

theorem Vs.at_ (h : Vs w B A xs) {k : Nat} (hk : k < xs.length) : ∃ ad, A = some ad ∧ ad.block < B ∧ w.cell? (ad.add k) = some xs[k] := by
  obtain ⟨ad, e, hb, hc⟩ := h (by omega)
  exact ⟨ad, e, hb, hc k hk⟩

theorem Vs.more (h : Vs w B A xs) (hB : B ≤ B') : Vs w B' A xs := by
  intro h0
  obtain ⟨ad, e, hlt, hc⟩ := h h0
  exact ⟨ad, e, by omega, hc⟩

theorem Vs.below (h : Vs w B A xs) (hb : Below B w w') : Vs w' B A xs := by
  intro h0
  obtain ⟨ad, e, hlt, hc⟩ := h h0
  exact ⟨ad, e, hlt, fun k hk => (hb.cell (by rw [add_block]; exact hlt)).trans (hc k hk)⟩

theorem Vs.take (h : Vs w B A xs) (n : Nat) : Vs w B A (xs.take n) := by
  intro h0
  rw [List.length_take] at h0
  obtain ⟨ad, e, hlt, hc⟩ := h (by omega)
  refine ⟨ad, e, hlt, fun k hk => ?_⟩
  rw [List.length_take] at hk
  rw [hc k (by omega), List.getElem_take]

theorem Vs.drop (h : Vs w B A xs) (n : Nat) : Vs w B (A.map (·.add n)) (xs.drop n) := by
  intro h0
  rw [List.length_drop] at h0
  obtain ⟨ad, e, hlt, hc⟩ := h (by omega)
  subst e
  refine ⟨ad.add n, rfl, by rw [add_block]; exact hlt, fun k hk => ?_⟩
  rw [List.length_drop] at hk
  rw [add_add, hc (n + k) (by omega), List.getElem_drop]

/-- A row of one-cell values that the call owns (its blocks: from B on), holding xs. -/
def VRow (te : TypeId) (B : Nat) (w : World) (v : Value) (xs : List Value) : Prop := w.ownsRow B te 1 v xs.length xs

variable {te : TypeId} {v : Value}
theorem VRow.nil (te : TypeId) (B : Nat) (w : World) : VRow te B w (.slice none 0 0) [] := World.ownsRow_nil w B _ 1
theorem VRow.alloc (h : VRow te B w v xs) (o : Obj) : VRow te B (w.alloc o) v xs := World.ownsRow.alloc h o
theorem VRow.drew (h : VRow te B w v xs) : VRow te B w.drew v xs := h
theorem VRow.below (h : VRow te B w v xs) (hb : Below w.heap.size w w') : VRow te B w' v xs :=
  World.ownsRow.kept (row := none) h ⟨hb.os, hb.tape, hb.output, hb.size, fun k hk _ => hb.block k hk⟩ (by cases hv : v.ownBlock <;> simp)

theorem VRow.form (h : VRow te B w v xs) : ∃ A c, v = .slice A xs.length c ∧ Vs w w.heap.size A xs ∧ xs.length ≤ c := by
  rcases h.2 with ⟨rfl, h0⟩ | ⟨g, cap, cur, rfl, hb, hg, hcap, rest⟩
  · exact ⟨none, 0, by rw [h0], fun h1 => by omega, by omega⟩
  · refine ⟨_, cap, rfl, fun _ => ⟨⟨g, 0, none⟩, rfl, (Array.getElem?_eq_some_iff.1 hg).1, fun k hk => ?_⟩, hcap⟩
    exact World.ownsRow.cells h (g := g) rfl k _ (List.getElem?_eq_getElem hk)

theorem new_cell (w : World) (u : Value) (te : TypeId) : (w.alloc (.cells #[u] te)).cell? ⟨w.heap.size, 0, none⟩ = some u := by
  unfold World.cell?
  simp only [heap_alloc_new]
  rfl
end

/-- 'append(v, u)' of one value to a row of the call's own. -/
theorem vapp1 {w : World} {ops : Array Oper} {rest : List Oper} {o : Oper} {a : Act} {Q : Exit → Act → World → Prop} (hgd : o.guard = none) (s x : Operand)
    (ts te : TypeId) (z : Value) (bytes : Nat) (hu : Try.prog.underlying ts = some (.slice te)) (hin : (Try.prog.info? te).map (fun i => (i.zero, i.size, i.bytes)) = some (some z, 1, bytes)) (hzs : z.cells.size = 1)
    (ho : o.op = .call { callee := .builtin .append, args := #[s, x], argTypes := #[ts, ts] })
    (B : Nat) (v : Value) (xs : List Value) (hs : a.eval s = v) (hown : VRow te B w v xs)
    (ad : Addr) (cp : Nat) (u : Value) (hx : a.eval x = .slice (some ad) 1 cp) (hc : w.cell? ad = some u) (hu1 : u.oneCell' = true)
    (hl : (xs.length + 1) * bytes ≤ 140737488355328) (hl2 : xs.length + 1 ≤ 140737488355328) (hB : B ≤ w.heap.size)
    (h : ∀ v' w', VRow te B w' v' (xs ++ [u]) → Below B w w' → wpList Try.prog ops Q rest (a.put o.dst v') w') : wpList Try.prog ops Q (o :: rest) a w := by
  obtain ⟨i0, hi, hz0, hz1, hz2⟩ := info_parts hin
  refine wpList_append_own w hgd s x ts ho B te i0 z 1 bytes hu hi hz0 hz1 hz2 hzs (by decide) v xs.length _ hs hown ad 1 cp [u] hx rfl ?_ ?_ (by unfold maxLen; omega) hl hB ?_
  · intro j y hj
    match j, hj with
    | 0, hj => simp at hj; subst hj; rw [add_zero]; exact hc
  · intro y hy; simp at hy; subst hy; exact hu1
  · intro v' w' h1 hg _
    refine h v' w' ?_ ((Below.refl B w).grown hg hB fun k hk => (World.ownsRow.lt hown k hk).1)
    unfold VRow
    rw [List.length_append]
    exact h1
end Go.Proofs.Ytohpgfefdlccmaa.CellsW

/-
  Words for slices of uint32 at this program: a slice value that reads as a list of words; a row of words that the call owns; append of one word. Conditions: in each statement.
-/
namespace Go.Proofs.Ytohpgfefdlccmaa.WordsW
open Go.RowKit BytesW CellsW

theorem infoWord : (Try.prog.info? 48).map (fun i => (i.zero, i.size, i.bytes)) = some (some (.int .u32 0), 1, 4) := by kernel_rfl

/-- Words as cells. -/
def wc (l : List Nat) : List Value := l.map fun (n : Nat) => .int .u32 (n : Int)
theorem wc_length (l : List Nat) : (wc l).length = l.length := by simp [wc]
theorem wc_append (a b : List Nat) : wc (a ++ b) = wc a ++ wc b := by simp [wc]
theorem wc_get (l : List Nat) (k : Nat) (h : k < l.length) (h' : k < (wc l).length) : (wc l)[k] = .int .u32 (l[k] : Int) := by simp [wc]

/-- The slice value '.slice A l.length c' reads as the words l, below block B. -/
def Us (w : World) (B : Nat) (A : Option Addr) (l : List Nat) : Prop :=
  0 < l.length → ∃ ad, A = some ad ∧ ad.block < B ∧ ∀ (k : Nat) (h : k < l.length), w.cell? (ad.add k) = some (.int .u32 (l[k] : Int))

section
variable {w w' : World} {B B' : Nat} {A : Option Addr} {l : List Nat} {v : Value}
theorem Us.nil (w : World) (B : Nat) (A : Option Addr) : Us w B A [] := fun h => absurd h (by simp)
theorem Us.at_ (h : Us w B A l) {k : Nat} (hk : k < l.length) : ∃ ad, A = some ad ∧ ad.block < B ∧ w.cell? (ad.add k) = some (.int .u32 (l[k] : Int)) := by
  obtain ⟨ad, e, hb, hc⟩ := h (by omega)
  exact ⟨ad, e, hb, hc k hk⟩
theorem Us.more (h : Us w B A l) (hB : B ≤ B') : Us w B' A l := by
  intro h0
  obtain ⟨ad, e, hlt, hc⟩ := h h0
  exact ⟨ad, e, by omega, hc⟩
theorem Us.below (h : Us w B A l) (hb : Below B w w') : Us w' B A l := by
  intro h0
  obtain ⟨ad, e, hlt, hc⟩ := h h0
  exact ⟨ad, e, hlt, fun k hk => (hb.cell (by rw [add_block]; exact hlt)).trans (hc k hk)⟩

/-- A row of words that the call owns (its blocks: from B on), holding l. -/
def URow (B : Nat) (w : World) (v : Value) (l : List Nat) : Prop := VRow 48 B w v (wc l)
theorem URow.nil (B : Nat) (w : World) : URow B w (.slice none 0 0) [] := VRow.nil _ B w
theorem URow.alloc (h : URow B w v l) (o : Obj) : URow B (w.alloc o) v l := VRow.alloc h o
theorem URow.drew (h : URow B w v l) : URow B w.drew v l := h
theorem URow.below (h : URow B w v l) (hb : Below w.heap.size w w') : URow B w' v l := VRow.below h hb
theorem URow.form (h : URow B w v l) : ∃ A c, v = .slice A l.length c ∧ Us w w.heap.size A l ∧ l.length ≤ c := by
  obtain ⟨A, c, rfl, hv, hc⟩ := VRow.form h
  rw [wc_length] at hc
  refine ⟨A, c, by rw [wc_length], ?_, hc⟩
  intro h0
  obtain ⟨ad, e, hlt, hcell⟩ := hv (by rw [wc_length]; exact h0)
  refine ⟨ad, e, hlt, fun k hk => ?_⟩
  have := hcell k (by rw [wc_length]; exact hk)
  rw [this, wc_get l k hk]

/-- 'append(v, n)' of one word, as the operation's own run. -/
theorem uapp1_wp {w : World} {o : Oper} {a : Act} {K : Act → World → Prop} {Q : Exit → Act → World → Prop} (s x : Operand)
    (ho : o.op = .call { callee := .builtin .append, args := #[s, x], argTypes := #[59, 59] })
    (B : Nat) (v : Value) (l : List Nat) (hs : a.eval s = v) (hown : URow B w v l)
    (ad : Addr) (cp : Nat) (n : Nat) (hx : a.eval x = .slice (some ad) 1 cp) (hc : w.cell? ad = some (.int .u32 (n : Int)))
    (hl : l.length + 1 ≤ 35184372088832) (hB : B ≤ w.heap.size)
    (h : ∀ v' w', URow B w' v' (l ++ [n]) → Below B w w' → K (a.put o.dst v') w') : o.wp Try.prog a w K Q := by
  obtain ⟨i0, hi, hz0, hz1, hz2⟩ := info_parts infoWord
  obtain ⟨v', w', hr, h1, hg, _⟩ := run_append_own (P := Try.prog) w B 59 o.type 48 i0 (.int .u32 0) 1 4 Try.underlying59 hi hz0 hz1 hz2 rfl (by decide) v (wc l).length (wc l) hown ad 1 cp [.int .u32 (n : Int)] rfl
    (fun j u hj => by
      match j, hj with
      | 0, hj => simp at hj; subst hj; rw [add_zero]; exact hc)
    (fun u hu => by simp at hu; subst hu; rfl) (by rw [wc_length]; unfold maxLen; omega) (by rw [wc_length]; omega) hB
  unfold Oper.wp execOp
  simp only [ho, resolve, invoke, builtin, Sem.run_bind, Sem.run_pure, Result.andThen_ok, List.map_toArray, List.map_cons, List.map_nil, hs, hx, hr]
  refine h v' w' ?_ ((Below.refl B w).grown hg hB fun k hk => (World.ownsRow.lt hown k hk).1)
  unfold URow VRow
  rw [wc_append, List.length_append]
  exact h1

/-- .. in a walk. -/
theorem uapp1 {w : World} {ops : Array Oper} {rest : List Oper} {o : Oper} {a : Act} {Q : Exit → Act → World → Prop} (hgd : o.guard = none) (s x : Operand)
    (ho : o.op = .call { callee := .builtin .append, args := #[s, x], argTypes := #[59, 59] })
    (B : Nat) (v : Value) (l : List Nat) (hs : a.eval s = v) (hown : URow B w v l)
    (ad : Addr) (cp : Nat) (n : Nat) (hx : a.eval x = .slice (some ad) 1 cp) (hc : w.cell? ad = some (.int .u32 (n : Int)))
    (hl : l.length + 1 ≤ 35184372088832) (hB : B ≤ w.heap.size)
    (h : ∀ v' w', URow B w' v' (l ++ [n]) → Below B w w' → wpList Try.prog ops Q rest (a.put o.dst v') w') : wpList Try.prog ops Q (o :: rest) a w :=
  wpList_plain hgd fun _ hK => uapp1_wp s x ho B v l hs hown ad cp n hx hc hl hB fun v' w' h1 h2 => hK _ _ (h v' w' h1 h2)

theorem newWord (w : World) (n : Nat) : (w.alloc (.cells #[.int .u32 (n : Int)] 48)).cell? ⟨w.heap.size, 0, none⟩ = some (.int .u32 (n : Int)) := new_cell w _ _
end
end Go.Proofs.Ytohpgfefdlccmaa.WordsW

/-
  More words for byte slices at this program: append of one byte that keeps what was there; under a guard too. Conditions: in each statement.
-/
namespace Go.Proofs.Ytohpgfefdlccmaa.BytesW
open Go.RowKit

theorem run_app1keep (w : World) (B : Nat) (ty : TypeId) (v : Value) (l : List UInt8) (hown : Row B w v l) (ad : Addr) (cp : Nat) (c : UInt8) (hc : w.cell? ad = some (.int .u8 (c.toNat : Int)))
    (hl : l.length + 1 ≤ 140737488355328) (hB : B ≤ w.heap.size) :
    ∃ v' w', (Builtin.append_ #[22, 22] ty #[v, .slice (some ad) 1 cp]).run Try.prog w = .ok v' w' ∧ Row B w' v' (l ++ [c]) ∧ Row B w' v l ∧ Below B w w' := by
  obtain ⟨i0, hi, hz0, hz1, hz2⟩ := info_parts infoByte
  have hn : ∀ j u, ([Value.int .u8 (c.toNat : Int)] : List Value)[j]? = some u → w.cell? (ad.add j) = some u := by
    intro j u hj
    match j, hj with
    | 0, hj => simp at hj; subst hj; rw [add_zero]; exact hc
  have h1 : ∀ u ∈ [Value.int .u8 (c.toNat : Int)], u.oneCell' = true := by intro u hu; simp at hu; subst hu; rfl
  have grow : ∀ (w' : World) (v' : Value) (B' : Nat), w'.ownsRow B' 5 1 v' (l.length + 1) (Lib.byteCells l ++ [.int .u8 (c.toNat : Int)]) → Row B' w' v' (l ++ [c]) := by
    intro w' v' B' h
    unfold Row
    rw [Lib.byteCells_append]
    simpa [Lib.byteCells] using h
  have hkeep := hown
  unfold Row at hown
  rcases hown.2 with ⟨rfl, h0⟩ | ⟨g, cap, cur, rfl, hbg, hg, hnc, hcm, hcs, htake⟩
  · obtain ⟨v', w', hr, h2, h3, _⟩ := run_append_own (P := Try.prog) w B 22 ty 5 i0 (.int .u8 0) 1 1 Try.underlying22 hi hz0 hz1 hz2 rfl (by decide) _ _ _ hown ad 1 cp _ rfl hn h1 (by unfold maxLen; omega) (by omega) hB
    exact ⟨v', w', hr, grow _ _ _ h2, ⟨hown.1, .inl ⟨rfl, h0⟩⟩, (Below.refl B w).grown h3 hB fun k hk => by simp [Value.ownBlock] at hk⟩
  · by_cases hroom : l.length + 1 ≤ cap
    · obtain ⟨w', hr, h2, h3⟩ := run_append_own_spare (P := Try.prog) w B 22 ty 5 i0 1 Try.underlying22 hi hz1 g l.length cap _ hown ad 1 cp _ rfl hn h1 hroom
      refine ⟨_, w', hr, grow _ _ _ h2, ?_, (Below.refl B w).grown h3 hB fun k hk => by cases hk; exact hbg⟩
      rcases h2.2 with ⟨he, _⟩ | ⟨g', cap', cur', he, hb', hg', hn', hm', hs', ht'⟩
      · cases he
      · cases he
        refine ⟨hown.1, .inr ⟨g, cap, cur', rfl, hbg, hg', hnc, hcm, hs', ?_⟩⟩
        have := congrArg (List.take (l.length * 1)) ht'
        rw [List.take_take, Nat.min_eq_left (by omega), List.take_left' (by rw [hown.1])] at this
        exact this
    · have hcells := World.ownsRow.cells hown (g := g) rfl
      obtain ⟨v', w', hr, h2, h3⟩ := run_append_arg_grows (P := Try.prog) w 22 ty 5 i0 (.int .u8 0) 1 1 Try.underlying22 hi hz0 hz1 hz2 rfl (by decide) ⟨g, 0, none⟩ l.length cap _ hown.1 hcells ad 1 cp _ rfl hn (by omega) (by unfold maxLen; omega) (by omega)
      have hb : Below w.heap.size w w' := ⟨h3.os, h3.tape, h3.output, h3.size, fun k hk => h3.block k hk (by simp)⟩
      refine ⟨v', w', hr, ?_, Row.below hkeep hb, hb.mono hB⟩
      have h4 := grow _ _ _ h2
      refine ⟨h4.1, ?_⟩
      rcases h4.2 with h5 | ⟨g', cap', cur', he, hb', hrest⟩
      · exact .inl h5
      · exact .inr ⟨g', cap', cur', he, Nat.le_trans hB hb', hrest⟩

/-- 'append(v, c)' of one byte, under a guard that holds: what v held reads as before. -/
theorem app1keep {w : World} {ops : Array Oper} {rest : List Oper} {o : Oper} {a : Act} {Q : Exit → Act → World → Prop} (hgd : Region.wanted o (yielded ops a.tmps) = true) (s x : Operand)
    (ho : o.op = .call { callee := .builtin .append, args := #[s, x], argTypes := #[22, 22] })
    (B : Nat) (v : Value) (l : List UInt8) (hs : a.eval s = v) (hown : Row B w v l)
    (ad : Addr) (cp : Nat) (c : UInt8) (hx : a.eval x = .slice (some ad) 1 cp) (hc : w.cell? ad = some (.int .u8 (c.toNat : Int)))
    (hl : l.length + 1 ≤ 140737488355328) (hB : B ≤ w.heap.size)
    (h : ∀ v' w', Row B w' v' (l ++ [c]) → Row B w' v l → Below B w w' → wpList Try.prog ops Q rest (a.put o.dst v') w') : wpList Try.prog ops Q (o :: rest) a w := by
  obtain ⟨v', w', hr, h1, h2, h3⟩ := run_app1keep w B o.type v l hown ad cp c hc hl hB
  refine wpList_step fun K hK => ?_
  rw [if_pos hgd]
  unfold Oper.wp execOp
  simp only [ho, resolve, invoke, builtin, Sem.run_bind, Sem.run_pure, Result.andThen_ok, List.map_toArray, List.map_cons, List.map_nil, hs, hx, hr]
  exact hK _ _ (h v' w' h1 h2 h3)

theorem byte_of (n : Int) (h0 : 0 ≤ n) (h1 : n ≤ 255) : ∃ y : UInt8, n = (y.toNat : Int) := ⟨UInt8.ofNat n.toNat, by rw [UInt8.toNat_ofNat']; omega⟩

/-- Where an owned row lies, and what is known of a place in it. -/
theorem Row.place {w : World} {B : Nat} {A : Option Addr} {n c : Nat} {l : List UInt8} (h : Row B w (.slice A n c) l) (h0 : 0 < l.length) :
    ∃ g, A = some ⟨g, 0, none⟩ ∧ n = l.length ∧ B ≤ g ∧ g < w.heap.size ∧ (∀ (k : Nat) (hk : k < l.length), w.cell? ⟨g, k, none⟩ = some (.int .u8 (l[k].toNat : Int))) ∧ (∀ k, w.frozen? ⟨g, k, none⟩ = false) := by
  have h' := h
  unfold Row at h
  rcases h.2 with ⟨_, h1⟩ | ⟨g, cap, cur, hv, hb, hg, _⟩
  · omega
  · cases hv
    refine ⟨g, rfl, rfl, hb, (Array.getElem?_eq_some_iff.1 hg).1, fun k hk => ?_, fun k => World.ownsRow.frozenAt h k⟩
    rw [World.ownsRow.cellAt h k (by omega)]
    simp [Lib.byteCells, List.getElem?_eq_getElem hk]

theorem Row.set {w : World} {B g c : Nat} {l : List UInt8} (h : Row B w (.slice (some ⟨g, 0, none⟩) l.length c) l) (k : Nat) (x : UInt8) (n : Int) (hn : n = (x.toNat : Int)) :
    Row B (w.setCell ⟨g, k, none⟩ (.int .u8 n)) (.slice (some ⟨g, 0, none⟩) (l.set k x).length c) (l.set k x) := by
  subst hn
  unfold Row at h ⊢
  have := (World.ownsRow.stored h k (.int .u8 (x.toNat : Int))).1
  rw [List.length_set]
  have e : Lib.byteCells (l.set k x) = (Lib.byteCells l).set k (.int .u8 (x.toNat : Int)) := by simp [Lib.byteCells, List.map_set]
  rw [e]
  exact this

theorem Row.form2 {w : World} {B : Nat} {v : Value} {l : List UInt8} (h : Row B w v l) : ∃ A c, v = .slice A l.length c ∧ Bs w w.heap.size A l ∧ l.length ≤ c := by
  obtain ⟨A, c, rfl, hb⟩ := h.form
  refine ⟨A, c, rfl, hb, ?_⟩
  unfold Row at h
  rcases h.2 with ⟨e, h0⟩ | ⟨g, cap, cur, e, _, _, hcap, _⟩
  · omega
  · cases e; omega

theorem cat_str (x y : List UInt8) : (⟨x.toArray⟩ ++ ⟨y.toArray⟩ : ByteArray) = ⟨(x ++ y).toArray⟩ := by
  apply ByteArray.ext
  simp

/-- 'make([]byte, c)'. -/
theorem makeN (c : Nat) (hc : c ≤ 140737488355328) (u : World) : (Instr.makeSlice 22 (.int .i64 (c : Int)) (.int .i64 (c : Int))).run Try.prog u =
    .ok (.slice (some ⟨u.heap.size, 0, none⟩) c c) (u.alloc (.cells (madeCells #[.int .u8 0] c) 5)) := by
  obtain ⟨i0, hi, hz0, hz1, hz2⟩ := info_parts infoByte
  have h := run_make (P := Try.prog) u 22 5 i0 (.int .u8 0) Try.underlying22 hi hz0 .i64 .i64 (c : Int) (c : Int) (by omega) (by omega) (by rw [hz2]; omega) (by omega)
  simpa [hz1, Value.cells] using h

theorem Row.madeN (B c : Nat) (u : World) (hB : B ≤ u.heap.size) (hc : c ≤ maxLen) : Row B (u.alloc (.cells (madeCells #[.int .u8 0] c) 5)) (.slice (some ⟨u.heap.size, 0, none⟩) c c) (List.replicate c 0) := by
  have h := World.ownsRow_lit (base := B) (e := 5) (size := 1) u (madeCells #[.int .u8 0] c) c hB hc (by simp [size_madeCells])
  rw [toList_madeCells_one] at h
  unfold Row
  rw [List.length_replicate]
  have e : Lib.byteCells (List.replicate c 0) = List.replicate c (.int .u8 0) := by simp [Lib.byteCells]
  rw [e]
  exact h
/-- A store into a row whose length is written another way. -/
theorem Row.set2 {w : World} {B g k c : Nat} {l l' : List UInt8} (h : Row B w (.slice (some ⟨g, 0, none⟩) k c) l) (hk : l.length = k) (j : Nat) (x : UInt8) (n : Int) (hn : n = (x.toNat : Int)) (hl : l.set j x = l') :
    Row B (w.setCell ⟨g, j, none⟩ (.int .u8 n)) (.slice (some ⟨g, 0, none⟩) k c) l' := by
  subst hk; subst hl
  have := Row.set h j x n hn
  rw [List.length_set] at this
  exact this

theorem Row.at2 {w : World} {B g k c : Nat} {l : List UInt8} (h : Row B w (.slice (some ⟨g, 0, none⟩) k c) l) (j : Nat) (hj : j < l.length) :
    w.cell? ⟨g, j, none⟩ = some (.int .u8 (l[j].toNat : Int)) ∧ w.frozen? ⟨g, j, none⟩ = false := by
  obtain ⟨g', e, _, _, _, h1, h2⟩ := h.place (by omega)
  cases e
  exact ⟨h1 j hj, h2 j⟩

end Go.Proofs.Ytohpgfefdlccmaa.BytesW

/-
  Words for slices of byte slices at this program: a value that reads as a list of rows; a slice of rows that the call owns; append to it. Conditions: in each statement.
-/
namespace Go.Proofs.Ytohpgfefdlccmaa.RowsW
open Go.RowKit BytesW CellsW

theorem infoRow : (Try.prog.info? 22).map (fun i => (i.zero, i.size, i.bytes)) = some (some (.slice none 0 0), 1, 24) := by kernel_rfl

/-- The slice value '.slice A ls.length c' reads as the rows ls, below block B. -/
def Ms (w : World) (B : Nat) (A : Option Addr) (ls : List (List UInt8)) : Prop :=
  0 < ls.length → ∃ ad, A = some ad ∧ ad.block < B ∧ ∀ (k : Nat) (h : k < ls.length), ∃ a c, w.cell? (ad.add k) = some (.slice a ls[k].length c) ∧ Bs w B a ls[k] ∧ ls[k].length ≤ c

section
variable {w w' : World} {B B' : Nat} {A : Option Addr} {ls : List (List UInt8)}

theorem Ms.nil (w : World) (B : Nat) (A : Option Addr) : Ms w B A [] := fun h => absurd h (by simp)

theorem Ms.at_ (h : Ms w B A ls) {k : Nat} (hk : k < ls.length) : ∃ ad a c, A = some ad ∧ ad.block < B ∧ w.cell? (ad.add k) = some (.slice a ls[k].length c) ∧ Bs w B a ls[k] ∧ ls[k].length ≤ c := by
  obtain ⟨ad, e, hb, hc⟩ := h (by omega)
  obtain ⟨a, c, h1, h2, h3⟩ := hc k hk
  exact ⟨ad, a, c, e, hb, h1, h2, h3⟩

theorem Ms.more (h : Ms w B A ls) (hB : B ≤ B') : Ms w B' A ls := by
  intro h0
  obtain ⟨ad, e, hlt, hc⟩ := h h0
  refine ⟨ad, e, by omega, fun k hk => ?_⟩
  obtain ⟨a, c, h1, h2, h3⟩ := hc k hk
  exact ⟨a, c, h1, h2.more hB, h3⟩

theorem Ms.below (h : Ms w B A ls) (hb : Below B w w') : Ms w' B A ls := by
  intro h0
  obtain ⟨ad, e, hlt, hc⟩ := h h0
  refine ⟨ad, e, hlt, fun k hk => ?_⟩
  obtain ⟨a, c, h1, h2, h3⟩ := hc k hk
  exact ⟨a, c, (hb.cell (by rw [add_block]; exact hlt)).trans h1, h2.below hb, h3⟩
end

/-- The value u reads as the bytes l, apart from the row that v owns. -/
def El (w : World) (v u : Value) (l : List UInt8) : Prop := ∃ a c, u = .slice a l.length c ∧ l.length ≤ c ∧ Bs w w.heap.size a l ∧ (0 < l.length → ∀ ad, a = some ad → v.ownBlock ≠ some ad.block)
def Es (w : World) (v : Value) (us : List Value) (ls : List (List UInt8)) : Prop := us.length = ls.length ∧ ∀ (k : Nat) u l, us[k]? = some u → ls[k]? = some l → El w v u l

theorem Es.append {w : World} {v : Value} {us us' : List Value} {ls ls' : List (List UInt8)} (h : Es w v us ls) (h' : Es w v us' ls') : Es w v (us ++ us') (ls ++ ls') := by
  refine ⟨by rw [List.length_append, List.length_append, h.1, h'.1], fun k u l hu hl => ?_⟩
  by_cases hk : k < us.length
  · rw [List.getElem?_append_left hk] at hu
    rw [List.getElem?_append_left (by rw [← h.1]; exact hk)] at hl
    exact h.2 k u l hu hl
  · rw [List.getElem?_append_right (by omega)] at hu
    rw [List.getElem?_append_right (by rw [← h.1]; omega), ← h.1] at hl
    exact h'.2 _ u l hu hl

theorem Es.one {w : World} {v u : Value} {l : List UInt8} (h : El w v u l) : Es w v [u] [l] := by
  refine ⟨rfl, fun k u' l' hu hl => ?_⟩
  match k, hu, hl with
  | 0, hu, hl => simp at hu hl; subst hu; subst hl; exact h

theorem El.grown {w w' : World} {v v' u : Value} {l : List UInt8} (h : El w v u l) (hg : w.grownBy w' v.ownBlock) (hv : ∀ k, v'.ownBlock = some k → v.ownBlock = some k ∨ w.heap.size ≤ k) : El w' v' u l := by
  obtain ⟨a, c, rfl, hc, hb, hp⟩ := h
  refine ⟨a, c, rfl, hc, ?_, ?_⟩
  · intro h0
    obtain ⟨ad, rfl, hlt, hcell⟩ := hb h0
    refine ⟨ad, rfl, Nat.lt_of_lt_of_le hlt hg.size, fun k hk => hg.cell (hcell k hk) ?_⟩
    rw [add_block]
    exact fun e => hp h0 ad rfl e.symm
  · intro h0 ad hd
    obtain ⟨ad', hd', hlt, _⟩ := hb h0
    rw [hd] at hd'
    cases hd'
    intro e
    rcases hv _ e with h1 | h1
    · exact hp h0 ad hd h1
    · omega

theorem El.below {w w' : World} {v u : Value} {l : List UInt8} (h : El w v u l) (hb : Below w.heap.size w w') : El w' v u l := by
  obtain ⟨a, c, rfl, hc, hs, hp⟩ := h
  exact ⟨a, c, rfl, hc, (hs.below hb).more hb.size, hp⟩
theorem Es.below {w w' : World} {v : Value} {us : List Value} {ls : List (List UInt8)} (h : Es w v us ls) (hb : Below w.heap.size w w') : Es w' v us ls :=
  ⟨h.1, fun k u l hu hl => (h.2 k u l hu hl).below hb⟩

/-- A slice of rows that the call owns (its blocks: from B on), and whose rows read as ls. -/
def MRow (B : Nat) (w : World) (v : Value) (ls : List (List UInt8)) : Prop := ∃ us, VRow 22 B w v us ∧ Es w v us ls

theorem MRow.nil (B : Nat) (w : World) : MRow B w (.slice none 0 0) [] := ⟨[], VRow.nil _ B w, rfl, fun k u l hu _ => by simp at hu⟩
theorem MRow.below {B : Nat} {w w' : World} {v : Value} {ls : List (List UInt8)} (h : MRow B w v ls) (hb : Below w.heap.size w w') : MRow B w' v ls := by
  obtain ⟨us, h1, h2⟩ := h
  exact ⟨us, h1.below hb, h2.below hb⟩

theorem MRow.form {B : Nat} {w : World} {v : Value} {ls : List (List UInt8)} (h : MRow B w v ls) : ∃ A c, v = .slice A ls.length c ∧ Ms w w.heap.size A ls ∧ ls.length ≤ c := by
  obtain ⟨us, h1, h2⟩ := h
  obtain ⟨A, c, rfl, hv, hc⟩ := h1.form
  have hl : us.length = ls.length := h2.1
  refine ⟨A, c, by rw [hl], ?_, by omega⟩
  intro h0
  obtain ⟨ad, e, hlt, hcell⟩ := hv (by omega)
  refine ⟨ad, e, hlt, fun k hk => ?_⟩
  have hk' : k < us.length := by omega
  obtain ⟨a, c', e1, e2, e3, _⟩ := h2.2 k us[k] ls[k] (List.getElem?_eq_getElem hk') (List.getElem?_eq_getElem hk)
  exact ⟨a, c', by rw [hcell k hk', e1], e3, e2⟩

theorem run_mapp (w : World) (B : Nat) (ts ty te : TypeId) (z : Value) (bytes : Nat) (hu : Try.prog.underlying ts = some (.slice te)) (hin : (Try.prog.info? te).map (fun i => (i.zero, i.size, i.bytes)) = some (some z, 1, bytes)) (hzs : z.cells.size = 1)
    (v : Value) (xs : List Value) (hown : VRow te B w v xs) (ad : Addr) (m cp : Nat) (us : List Value) (hm : us.length = m) (hc : ∀ (j : Nat) u, us[j]? = some u → w.cell? (ad.add j) = some u) (h1 : ∀ u ∈ us, u.oneCell' = true)
    (hl : (xs.length + m) * bytes ≤ 140737488355328) (hl2 : xs.length + m ≤ 140737488355328) (hB : B ≤ w.heap.size) :
    ∃ v' w', (Builtin.append_ #[ts, ts] ty #[v, .slice (some ad) m cp]).run Try.prog w = .ok v' w' ∧ VRow te B w' v' (xs ++ us) ∧ w.grownBy w' v.ownBlock ∧ (∀ k, v'.ownBlock = some k → v.ownBlock = some k ∨ w.heap.size ≤ k) := by
  obtain ⟨i0, hi, hz0, hz1, hz2⟩ := info_parts hin
  have hown' := hown
  unfold VRow at hown
  have fin : ∀ (w' : World) (v' : Value) (B' : Nat), B ≤ B' → w'.ownsRow B' te 1 v' (xs.length + m) (xs ++ us) → VRow te B w' v' (xs ++ us) := by
    intro w' v' B' hB' h
    unfold VRow
    rw [List.length_append, hm]
    refine ⟨h.1, ?_⟩
    rcases h.2 with h5 | ⟨g', cap', cur', he, hb', hrest⟩
    · exact .inl h5
    · exact .inr ⟨g', cap', cur', he, Nat.le_trans hB' hb', hrest⟩
  rcases hown.2 with ⟨rfl, h0⟩ | ⟨g, cap, cur, rfl, hbg, hg, hnc, hcm, hcs, htake⟩
  · have hx : xs = [] := List.eq_nil_of_length_eq_zero h0
    subst hx
    obtain ⟨v', w', hr, h2, h3, _⟩ := run_append_own (P := Try.prog) w w.heap.size ts ty te i0 z 1 bytes hu hi hz0 hz1 hz2 hzs (by decide) (.slice none 0 0) 0 [] (World.ownsRow_nil _ _ _ _) ad m cp us (by rw [hm, Nat.mul_one]) hc h1 (by unfold maxLen; simp at hl2 ⊢; omega) (by simpa using hl) (Nat.le_refl _)
    refine ⟨v', w', hr, fin _ _ _ hB (by simpa using h2), h3, fun k hk => .inr (World.ownsRow.lt h2 k hk).1⟩
  · by_cases hroom : xs.length + m ≤ cap
    · obtain ⟨w', hr, h2, h3⟩ := run_append_own_spare (P := Try.prog) w B ts ty te i0 1 hu hi hz1 g xs.length cap _ hown ad m cp us (by rw [hm, Nat.mul_one]) hc h1 hroom
      exact ⟨_, w', hr, fin _ _ _ (Nat.le_refl _) h2, h3, fun k hk => .inl (by simpa [Value.ownBlock] using hk)⟩
    · have hcells := World.ownsRow.cells hown (g := g) rfl
      obtain ⟨v', w', hr, h2, h3⟩ := run_append_arg_grows (P := Try.prog) w ts ty te i0 z 1 bytes hu hi hz0 hz1 hz2 hzs (by decide) ⟨g, 0, none⟩ xs.length cap _ hown.1 hcells ad m cp us (by rw [hm, Nat.mul_one]) hc (by omega) (by unfold maxLen; omega) hl
      exact ⟨v', w', hr, fin _ _ _ hB h2, ⟨h3.os, h3.tape, h3.output, h3.size, fun k hk _ => h3.block k hk (by simp)⟩, fun k hk => .inr (World.ownsRow.lt h2 k hk).1⟩

/-- 'append(v, us...)' of rows to a slice of rows that the call owns. -/
theorem mapp {w : World} {ops : Array Oper} {rest : List Oper} {o : Oper} {a : Act} {Q : Exit → Act → World → Prop} (hgd : o.guard = none) (s x : Operand)
    (ho : o.op = .call { callee := .builtin .append, args := #[s, x], argTypes := #[42, 42] })
    (B : Nat) (v : Value) (ls : List (List UInt8)) (hs : a.eval s = v) (hown : MRow B w v ls)
    (ad : Addr) (cp : Nat) (us : List Value) (ms : List (List UInt8)) (hx : a.eval x = .slice (some ad) ms.length cp) (hE : Es w v us ms) (hc : ∀ (j : Nat) u, us[j]? = some u → w.cell? (ad.add j) = some u)
    (hl : (ls.length + ms.length) * 24 ≤ 140737488355328) (hB : B ≤ w.heap.size)
    (h : ∀ v' w', MRow B w' v' (ls ++ ms) → Below B w w' → wpList Try.prog ops Q rest (a.put o.dst v') w') : wpList Try.prog ops Q (o :: rest) a w := by
  obtain ⟨vs, h1, h2⟩ := hown
  have hvl : vs.length = ls.length := h2.1
  have hul : us.length = ms.length := hE.1
  obtain ⟨v', w', hr, g1, g2, g3⟩ := run_mapp w B 42 o.type 22 (.slice none 0 0) 24 Try.underlying42 infoRow rfl v vs h1 ad ms.length cp us hul hc (fun u hu => by
      obtain ⟨k, hk, rfl⟩ := List.getElem_of_mem hu
      obtain ⟨a, c, e, _⟩ := hE.2 k us[k] (ms[k]'(by omega)) (List.getElem?_eq_getElem hk) (List.getElem?_eq_getElem (by omega))
      rw [e]; rfl) (by rw [hvl]; exact hl) (by omega) hB
  refine wpList_plain hgd fun K hK => ?_
  unfold Oper.wp execOp
  simp only [ho, resolve, invoke, builtin, Sem.run_bind, Sem.run_pure, Result.andThen_ok, List.map_toArray, List.map_cons, List.map_nil, hs, hx, hr]
  refine hK _ _ (h v' w' ⟨vs ++ us, g1, ?_⟩ ((Below.refl B w).grown g2 hB fun k hk => (World.ownsRow.lt h1 k hk).1))
  have := h2.append hE
  exact ⟨this.1, fun k u l hu hl => (this.2 k u l hu hl).grown g2 g3⟩

theorem run_mapp_nil (w : World) (B : Nat) (ts ty te : TypeId) (z : Value) (bytes : Nat) (hu : Try.prog.underlying ts = some (.slice te)) (hin : (Try.prog.info? te).map (fun i => (i.zero, i.size, i.bytes)) = some (some z, 1, bytes))
    (v : Value) (xs : List Value) (hown : VRow te B w v xs) (c : Nat) : (Builtin.append_ #[ts, ts] ty #[v, .slice none 0 c]).run Try.prog w = .ok v w := by
  obtain ⟨i0, hi, hz0, hz1, hz2⟩ := info_parts hin
  unfold VRow at hown
  generalize hn : xs.length = n at hown
  clear hn
  rcases hown.2 with ⟨rfl, rfl⟩ | ⟨g, cap, cur, rfl, _, _, hcap, _⟩
  · simp [Builtin.append_, run_underlying hu, sizeOf, typeInfo, hi, Builtin.lenOf, Builtin.firstCells]
  · simp [Builtin.append_, run_underlying hu, sizeOf, typeInfo, hi, Builtin.lenOf, Builtin.firstCells, hcap, storeCells]

/-- 'append(v, us...)' of a slice of rows, nil let in. -/
theorem mappN {w : World} {ops : Array Oper} {rest : List Oper} {o : Oper} {a : Act} {Q : Exit → Act → World → Prop} (hgd : o.guard = none) (s x : Operand)
    (ho : o.op = .call { callee := .builtin .append, args := #[s, x], argTypes := #[42, 42] })
    (B : Nat) (v : Value) (ls : List (List UInt8)) (hs : a.eval s = v) (hown : MRow B w v ls)
    (A : Option Addr) (cp : Nat) (us : List Value) (ms : List (List UInt8)) (hx : a.eval x = .slice A ms.length cp) (hE : Es w v us ms) (hc : 0 < us.length → ∃ ad, A = some ad ∧ ∀ (j : Nat) u, us[j]? = some u → w.cell? (ad.add j) = some u)
    (hl : (ls.length + ms.length) * 24 ≤ 140737488355328) (hB : B ≤ w.heap.size)
    (h : ∀ v' w', MRow B w' v' (ls ++ ms) → Below B w w' → wpList Try.prog ops Q rest (a.put o.dst v') w') : wpList Try.prog ops Q (o :: rest) a w := by
  cases A with
  | none =>
    have hm0 : ms = [] := by
      cases ms with
      | nil => rfl
      | cons y r => obtain ⟨ad, e, _⟩ := hc (by rw [hE.1]; simp); cases e
    subst hm0
    obtain ⟨vs, h1, h2⟩ := hown
    refine wpList_plain hgd fun K hK => ?_
    unfold Oper.wp execOp
    simp only [ho, resolve, invoke, builtin, Sem.run_bind, Sem.run_pure, Result.andThen_ok, List.map_toArray, List.map_cons, List.map_nil, hs, hx, List.length_nil, run_mapp_nil w B 42 o.type 22 (.slice none 0 0) 24 Try.underlying42 infoRow v vs h1 cp]
    exact hK _ _ (h v w (by simpa using ⟨vs, h1, h2⟩) (Below.refl _ _))
  | some ad =>
    refine mapp hgd s x ho B v ls hs hown ad cp us ms hx hE (fun j u hj => ?_) hl hB h
    have h0 : 0 < us.length := by
      have := (List.getElem?_eq_some_iff.1 hj).1
      omega
    obtain ⟨ad', e, hcell⟩ := hc h0
    cases e
    exact hcell j u hj

theorem El.behind {w w' : World} {v u : Value} {l : List UInt8} {n c : Nat} (h : El w v u l) (hb : Below w.heap.size w w') : El w' (.slice (some ⟨w.heap.size, 0, none⟩) n c) u l := by
  obtain ⟨a, c', rfl, hc, hs, _⟩ := h
  refine ⟨a, c', rfl, hc, (hs.below hb).more hb.size, fun h0 ad hd e => ?_⟩
  obtain ⟨ad', hd', hlt, _⟩ := hs h0
  rw [hd] at hd'
  cases hd'
  simp [Value.ownBlock] at e
  omega
theorem Es.behind {w w' : World} {v : Value} {us : List Value} {ls : List (List UInt8)} {n c : Nat} (h : Es w v us ls) (hb : Below w.heap.size w w') : Es w' (.slice (some ⟨w.heap.size, 0, none⟩) n c) us ls :=
  ⟨h.1, fun k u l hu hl => (h.2 k u l hu hl).behind hb⟩

/-- A slice of rows, opened for an append of it behind a row that is laid now. -/
theorem MRow.open_ {B : Nat} {w : World} {v : Value} {ls : List (List UInt8)} (h : MRow B w v ls) : ∃ A c us, v = .slice A ls.length c ∧ Es w v us ls ∧ (0 < us.length → ∃ ad, A = some ad ∧ ad.block < w.heap.size ∧ ∀ (j : Nat) u, us[j]? = some u → w.cell? (ad.add j) = some u) := by
  obtain ⟨us, h1, h2⟩ := h
  obtain ⟨A, c, e, hv, hc⟩ := h1.form
  refine ⟨A, c, us, by rw [e, h2.1], h2, fun h0 => ?_⟩
  obtain ⟨ad, e1, hb, hcell⟩ := hv h0
  refine ⟨ad, e1, hb, fun j u hj => ?_⟩
  obtain ⟨hj', e2⟩ := List.getElem?_eq_some_iff.1 hj
  rw [hcell j hj', e2]

/-- A slice of rows that has just been laid. -/
theorem Ms.laid (w : World) (us : List Value) (ls : List (List UInt8)) (cs : Array Value) (hcs : cs = us.toArray) (fz : Nat × Nat) (hlen : us.length = ls.length)
    (hE : ∀ (k : Nat) u l, us[k]? = some u → ls[k]? = some l → ∃ a c, u = .slice a l.length c ∧ l.length ≤ c ∧ Bs w w.heap.size a l) (B : Nat) (hB : w.heap.size < B) :
    Ms (w.alloc (.cells cs 22 fz)) B (some ⟨w.heap.size, 0, none⟩) ls := by
  subst hcs
  intro _
  refine ⟨_, rfl, hB, fun k hk => ?_⟩
  have hk' : k < us.length := by omega
  obtain ⟨a, c, e, h1, h2⟩ := hE k us[k] ls[k] (List.getElem?_eq_getElem hk') (List.getElem?_eq_getElem hk)
  have ea : (⟨w.heap.size, 0, none⟩ : Addr).add k = ⟨w.heap.size, k, none⟩ := by unfold Addr.add; split <;> simp_all
  refine ⟨a, c, ?_, (h2.below ((Below.refl _ w).alloc (Nat.le_refl _) _)).more (by omega), h1⟩
  rw [ea, ← e]
  unfold World.cell?
  simp only [heap_alloc_new]
  simp [List.getElem?_eq_getElem hk']

theorem Ms.laid2 (w : World) (a1 a2 : Option Addr) (l1 l2 : List UInt8) (n1 n2 c1 c2 : Nat) (hn1 : n1 = l1.length) (hn2 : n2 = l2.length) (h1 : Bs w w.heap.size a1 l1) (h2 : Bs w w.heap.size a2 l2) (hc1 : n1 ≤ c1) (hc2 : n2 ≤ c2) (fz : Nat × Nat) (B : Nat) (hB : w.heap.size < B) :
    Ms (w.alloc (.cells #[.slice a1 n1 c1, .slice a2 n2 c2] 22 fz)) B (some ⟨w.heap.size, 0, none⟩) [l1, l2] := by
  subst hn1
  subst hn2
  refine Ms.laid w [.slice a1 l1.length c1, .slice a2 l2.length c2] [l1, l2] _ rfl fz rfl (fun k u l hu hl => ?_) B hB
  match k, hu, hl with
  | 0, hu, hl => simp at hu hl; subst hu; subst hl; exact ⟨a1, c1, rfl, hc1, h1⟩
  | 1, hu, hl => simp at hu hl; subst hu; subst hl; exact ⟨a2, c2, rfl, hc2, h2⟩

theorem ownsRow_base {w : World} {B B' : Nat} {te : TypeId} {k n : Nat} {v : Value} {xs : List Value} (h : w.ownsRow B' te k v n xs) (hB : B ≤ B') : w.ownsRow B te k v n xs := by
  refine ⟨h.1, ?_⟩
  rcases h.2 with h5 | ⟨g', cap', cur', he, hb', hrest⟩
  · exact .inl h5
  · exact .inr ⟨g', cap', cur', he, Nat.le_trans hB hb', hrest⟩
theorem _root_.Go.Proofs.Ytohpgfefdlccmaa.BytesW.Row.base {w : World} {B B' : Nat} {v : Value} {l : List UInt8} (h : Row B' w v l) (hB : B ≤ B') : Row B w v l := ownsRow_base h hB
theorem MRow.base {w : World} {B B' : Nat} {v : Value} {ls : List (List UInt8)} (h : MRow B' w v ls) (hB : B ≤ B') : MRow B w v ls := by
  obtain ⟨us, h1, h2⟩ := h
  exact ⟨us, ownsRow_base h1 hB, h2⟩

/-- Bytes that were laid behind a slice of rows stand apart from it. -/
theorem El.fresh {B : Nat} {w w' : World} {v : Value} {ls : List (List UInt8)} {X : Option Addr} {l : List UInt8} {c : Nat} (h : MRow B w v ls) (hx : Row w.heap.size w' (.slice X l.length c) l) (hc : l.length ≤ c) : El w' v (.slice X l.length c) l := by
  obtain ⟨A, c', e, hb, _⟩ := hx.form2
  cases e
  refine ⟨X, c, rfl, hc, hb, fun h0 ad hd e => ?_⟩
  obtain ⟨g, hg, _, hge, _⟩ := hx.place h0
  rw [hd] at hg
  cases hg
  obtain ⟨us, h1, _⟩ := h
  have := (World.ownsRow.lt h1 _ e).2
  simp only at this
  omega

theorem new_row (w : World) (A : Option Addr) (n c : Nat) : ∀ (j : Nat) u, ([.slice A n c] : List Value)[j]? = some u → (w.alloc (.cells #[.slice A n c] 22)).cell? ((⟨w.heap.size, 0, none⟩ : Addr).add j) = some u := by
  intro j u hj
  match j, hj with
  | 0, hj =>
    simp at hj
    subst hj
    rw [add_zero]
    unfold World.cell?
    simp only [heap_alloc_new]
    rfl

/-- A row of one byte that has just been laid is the call's own. -/
theorem Row.lit (B : Nat) (w : World) (n : Int) (c : UInt8) (hn : n = (c.toNat : Int)) (hB : B ≤ w.heap.size) : Row B (w.alloc (.cells #[.int .u8 n] 5)) (.slice (some ⟨w.heap.size, 0, none⟩) 1 1) [c] := by
  subst hn
  exact ⟨rfl, .inr ⟨w.heap.size, 1, _, rfl, hB, heap_alloc_new w _, Nat.le_refl _, by unfold maxLen; omega, rfl, rfl⟩⟩

/-- A slice of one row that has just been laid is the call's own. -/
theorem MRow.lit (B : Nat) (w : World) (A : Option Addr) (l : List UInt8) (c : Nat) (hl : l.length ≤ c) (hA : Bs w w.heap.size A l) (hB : B ≤ w.heap.size) :
    MRow B (w.alloc (.cells #[.slice A l.length c] 22)) (.slice (some ⟨w.heap.size, 0, none⟩) 1 1) [l] := by
  refine ⟨[.slice A l.length c], ⟨rfl, .inr ⟨w.heap.size, 1, _, rfl, hB, heap_alloc_new w _, Nat.le_refl _, by unfold maxLen; omega, rfl, rfl⟩⟩, Es.one ⟨A, c, rfl, hl, ?_, ?_⟩⟩
  · exact (hA.below ((Below.refl _ w).alloc (Nat.le_refl _) _)).more (by simp)
  · intro h0 ad hd e
    obtain ⟨ad', hd', hlt, _⟩ := hA h0
    rw [hd] at hd'
    cases hd'
    simp [Value.ownBlock] at e
    omega
end Go.Proofs.Ytohpgfefdlccmaa.RowsW

/-
  Two rows of bytes that the call owns, side by side: append to one keeps the other. Conditions: in each statement.
-/
namespace Go.Proofs.Ytohpgfefdlccmaa.BytesW
open Go.RowKit

theorem run_app1g (w : World) (B : Nat) (ty : TypeId) (v : Value) (l : List UInt8) (hown : Row B w v l) (ad : Addr) (cp : Nat) (c : UInt8) (hc : w.cell? ad = some (.int .u8 (c.toNat : Int)))
    (hl : l.length + 1 ≤ 140737488355328) (hB : B ≤ w.heap.size) :
    ∃ v' w', (Builtin.append_ #[22, 22] ty #[v, .slice (some ad) 1 cp]).run Try.prog w = .ok v' w' ∧ Row B w' v' (l ++ [c]) ∧ w.grownBy w' v.ownBlock ∧ (v'.ownBlock = v.ownBlock ∨ ∀ g, v'.ownBlock = some g → w.heap.size ≤ g) := by
  obtain ⟨i0, hi, hz0, hz1, hz2⟩ := info_parts infoByte
  have hn : ∀ j u, ([Value.int .u8 (c.toNat : Int)] : List Value)[j]? = some u → w.cell? (ad.add j) = some u := by
    intro j u hj
    match j, hj with
    | 0, hj => simp at hj; subst hj; rw [add_zero]; exact hc
  have h1 : ∀ u ∈ [Value.int .u8 (c.toNat : Int)], u.oneCell' = true := by intro u hu; simp at hu; subst hu; rfl
  have grow : ∀ (w' : World) (v' : Value) (B' : Nat), w'.ownsRow B' 5 1 v' (l.length + 1) (Lib.byteCells l ++ [.int .u8 (c.toNat : Int)]) → Row B' w' v' (l ++ [c]) := by
    intro w' v' B' h
    unfold Row
    rw [Lib.byteCells_append]
    simpa [Lib.byteCells] using h
  have down : ∀ (w' : World) (v' : Value), Row w.heap.size w' v' (l ++ [c]) → Row B w' v' (l ++ [c]) ∧ ∀ g, v'.ownBlock = some g → w.heap.size ≤ g := by
    intro w' v' h
    refine ⟨⟨h.1, ?_⟩, fun g hg => (World.ownsRow.lt h g hg).1⟩
    rcases h.2 with h5 | ⟨g', cap', cur', he, hb', hrest⟩
    · exact .inl h5
    · exact .inr ⟨g', cap', cur', he, Nat.le_trans hB hb', hrest⟩
  unfold Row at hown
  rcases hown.2 with ⟨rfl, h0⟩ | ⟨g, cap, cur, rfl, hbg, hg, hnc, hcm, hcs, htake⟩
  · have hown' : w.ownsRow w.heap.size 5 1 (.slice none 0 0) l.length (Lib.byteCells l) := ⟨hown.1, .inl ⟨rfl, h0⟩⟩
    obtain ⟨v', w', hr, h2, h3, _⟩ := run_append_own (P := Try.prog) w w.heap.size 22 ty 5 i0 (.int .u8 0) 1 1 Try.underlying22 hi hz0 hz1 hz2 rfl (by decide) _ _ _ hown' ad 1 cp _ rfl hn h1 (by unfold maxLen; omega) (by omega) (Nat.le_refl _)
    obtain ⟨h4, h5⟩ := down w' v' (grow _ _ _ h2)
    exact ⟨v', w', hr, h4, h3, .inr h5⟩
  · by_cases hroom : l.length + 1 ≤ cap
    · obtain ⟨w', hr, h2, h3⟩ := run_append_own_spare (P := Try.prog) w B 22 ty 5 i0 1 Try.underlying22 hi hz1 g l.length cap _ hown ad 1 cp _ rfl hn h1 hroom
      exact ⟨_, w', hr, grow _ _ _ h2, h3, .inl rfl⟩
    · have hcells := World.ownsRow.cells hown (g := g) rfl
      obtain ⟨v', w', hr, h2, h3⟩ := run_append_arg_grows (P := Try.prog) w 22 ty 5 i0 (.int .u8 0) 1 1 Try.underlying22 hi hz0 hz1 hz2 rfl (by decide) ⟨g, 0, none⟩ l.length cap _ hown.1 hcells ad 1 cp _ rfl hn (by omega) (by unfold maxLen; omega) (by omega)
      obtain ⟨h4, h5⟩ := down w' v' (grow _ _ _ h2)
      exact ⟨v', w', hr, h4, ⟨h3.os, h3.tape, h3.output, h3.size, fun k hk _ => h3.block k hk (by simp)⟩, .inr h5⟩

/-- 'append(v, c)' of one byte: what is written is v's own block, or lies beyond. -/
theorem app1g {w : World} {ops : Array Oper} {rest : List Oper} {o : Oper} {a : Act} {Q : Exit → Act → World → Prop} (hgd : o.guard = none) (s x : Operand)
    (ho : o.op = .call { callee := .builtin .append, args := #[s, x], argTypes := #[22, 22] })
    (B : Nat) (v : Value) (l : List UInt8) (hs : a.eval s = v) (hown : Row B w v l)
    (ad : Addr) (cp : Nat) (c : UInt8) (hx : a.eval x = .slice (some ad) 1 cp) (hc : w.cell? ad = some (.int .u8 (c.toNat : Int)))
    (hl : l.length + 1 ≤ 140737488355328) (hB : B ≤ w.heap.size)
    (h : ∀ v' w', Row B w' v' (l ++ [c]) → w.grownBy w' v.ownBlock → (v'.ownBlock = v.ownBlock ∨ ∀ g, v'.ownBlock = some g → w.heap.size ≤ g) → wpList Try.prog ops Q rest (a.put o.dst v') w') : wpList Try.prog ops Q (o :: rest) a w := by
  obtain ⟨v', w', hr, h1, h2, h3⟩ := run_app1g w B o.type v l hown ad cp c hc hl hB
  refine wpList_plain hgd fun K hK => ?_
  unfold Oper.wp execOp
  simp only [ho, resolve, invoke, builtin, Sem.run_bind, Sem.run_pure, Result.andThen_ok, List.map_toArray, List.map_cons, List.map_nil, hs, hx, hr]
  exact hK _ _ (h v' w' h1 h2 h3)

/-- 'append(v, s...)': what is written is v's own block, or lies beyond. -/
theorem appNg {w : World} {ops : Array Oper} {rest : List Oper} {o : Oper} {a : Act} {Q : Exit → Act → World → Prop} (hgd : o.guard = none) (s x : Operand)
    (ho : o.op = .call { callee := .builtin .append, args := #[s, x], argTypes := #[22, 22] })
    (B N : Nat) (v : Value) (l : List UInt8) (hs : a.eval s = v) (hown : Row B w v l)
    (A : Option Addr) (m : List UInt8) (cp : Nat) (hx : a.eval x = .slice A m.length cp) (hm : Bs w N A m)
    (hl : l.length + m.length ≤ 140737488355328) (hB : B ≤ w.heap.size)
    (h : ∀ v' w', Row B w' v' (l ++ m) → w.grownBy w' v.ownBlock → wpList Try.prog ops Q rest (a.put o.dst v') w') : wpList Try.prog ops Q (o :: rest) a w := by
  cases A with
  | none =>
    have hm0 : m = [] := by
      cases m with
      | nil => rfl
      | cons y r => obtain ⟨ad, e, _⟩ := hm (by simp); cases e
    subst hm0
    refine wpList_plain hgd fun K hK => ?_
    unfold Oper.wp execOp
    simp only [ho, resolve, invoke, builtin, Sem.run_bind, Sem.run_pure, Result.andThen_ok, List.map_toArray, List.map_cons, List.map_nil, hs, hx, List.length_nil, run_app_nil w B o.type v l hown cp]
    exact hK _ _ (h v w (by simpa using hown) ⟨rfl, rfl, rfl, Nat.le_refl _, fun _ _ _ => rfl⟩)
  | some ad =>
    obtain ⟨i0, hi, hz0, hz1, hz2⟩ := info_parts infoByte
    refine wpList_append_own w hgd s x 22 ho B 5 i0 (.int .u8 0) 1 1 Try.underlying22 hi hz0 hz1 hz2 rfl (by decide) v l.length _ hs hown ad m.length cp (Lib.byteCells m) hx (by rw [Lib.byteCells_length, Nat.mul_one]) ?_ ?_ (by unfold maxLen; omega) (by omega) hB ?_
    · intro j u hj
      have hjl : j < m.length := by
        rcases Nat.lt_or_ge j m.length with h | h
        · exact h
        · simp [Lib.byteCells, h] at hj
      obtain ⟨ad', e, _, hc⟩ := hm.at_ hjl
      cases e
      rw [hc]
      simpa [Lib.byteCells, List.getElem?_eq_getElem hjl] using hj
    · intro u hu
      simp only [Lib.byteCells, List.mem_map] at hu
      obtain ⟨b, _, rfl⟩ := hu
      rfl
    · intro v' w' h1 hg _
      refine h v' w' ?_ hg
      unfold Row
      rw [Lib.byteCells_append, List.length_append]
      exact h1

/-- .. as a run. -/
theorem run_appN (w : World) (B N : Nat) (ty : TypeId) (v : Value) (l : List UInt8) (hown : Row B w v l) (ad : Addr) (m : List UInt8) (n cp : Nat) (hn : m.length = n) (hm : Bs w N (some ad) m)
    (hl : l.length + m.length ≤ 140737488355328) (hB : B ≤ w.heap.size) :
    ∃ v' w', (Builtin.append_ #[22, 22] ty #[v, .slice (some ad) n cp]).run Try.prog w = .ok v' w' ∧ Row B w' v' (l ++ m) ∧ w.grownBy w' v.ownBlock := by
  subst hn
  obtain ⟨i0, hi, hz0, hz1, hz2⟩ := info_parts infoByte
  obtain ⟨v', w', hr, h1, hg, _⟩ := run_append_own (P := Try.prog) w B 22 ty 5 i0 (.int .u8 0) 1 1 Try.underlying22 hi hz0 hz1 hz2 rfl (by decide) v l.length _ hown ad m.length cp (Lib.byteCells m) (by rw [Lib.byteCells_length, Nat.mul_one]) (fun j u hj => by
      have hjl : j < m.length := by
        rcases Nat.lt_or_ge j m.length with h | h
        · exact h
        · simp [Lib.byteCells, h] at hj
      obtain ⟨ad', e, _, hc⟩ := hm.at_ hjl
      cases e
      rw [hc]
      simpa [Lib.byteCells, List.getElem?_eq_getElem hjl] using hj) (fun u hu => by
      simp only [Lib.byteCells, List.mem_map] at hu
      obtain ⟨b, _, rfl⟩ := hu
      rfl) (by unfold maxLen; omega) (by omega) hB
  refine ⟨v', w', hr, ?_, hg⟩
  unfold Row
  rw [Lib.byteCells_append, List.length_append]
  exact h1

/-- What keeps two own rows apart. -/
def Apart (u v : Value) : Prop := ∀ g, u.ownBlock = some g → v.ownBlock ≠ some g
theorem Apart.nil (v : Value) : Apart (.slice none 0 0) v := fun g h => by cases h
theorem Apart.swap {u v : Value} (h : Apart u v) : Apart v u := fun g h1 h2 => h g h2 h1
theorem Row.sep {w w' : World} {B : Nat} {u v : Value} {l : List UInt8} (h : Row B w v l) (hs : Apart u v) (hg : w.grownBy w' u.ownBlock) : Row B w' v l := by
  refine World.ownsRow.kept h hg ?_
  cases e : v.ownBlock with
  | none => exact .inl rfl
  | some g => exact .inr fun h2 => hs g h2.symm e
theorem Apart.moved {w : World} {B n : Nat} {u u' v : Value} {l : List UInt8} (hs : Apart u v) (h : Row B w v l) (hn : w.heap.size ≤ n) (hm : u'.ownBlock = u.ownBlock ∨ ∀ g, u'.ownBlock = some g → n ≤ g) : Apart u' v := by
  intro g hg hv
  rcases hm with e | hm
  · exact hs g (e ▸ hg) hv
  · have h1 := hm g hg
    have h2 := (World.ownsRow.lt h g hv).2
    omega
theorem Row.below_own {w w' : World} {B : Nat} {v : Value} {l : List UInt8} (h : Row B w v l) (hg : w.grownBy w' v.ownBlock) (hB : B ≤ w.heap.size) : Below B w w' :=
  (Below.refl B w).grown hg hB fun k hk => (World.ownsRow.lt h k hk).1
end Go.Proofs.Ytohpgfefdlccmaa.BytesW
