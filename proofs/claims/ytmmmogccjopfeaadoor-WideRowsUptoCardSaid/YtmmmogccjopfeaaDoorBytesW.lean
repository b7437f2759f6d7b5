/-
  Words for byte slices at this program: a slice value that reads as a list of bytes; a row of bytes that the call owns; append of one byte; conversion to a string. Conditions: in each statement.
-/
import Derived.Test.YtmmmogccjopfeaaDoorProg
import Derived.WalkKit
import Derived.Laws.BytesArg
import Derived.Lib.UnsafeStr
import Derived.Deep.Draws
namespace Go.Proofs.YtmmmogccjopfeaaDoor.BytesW
open Go.RowKit

theorem infoByte : (Tryd.prog.info? 5).map (fun i => (i.zero, i.size, i.bytes)) = some (some (.int .u8 0), 1, 1) := by kernel_rfl

theorem add_block (a : Addr) (n : Nat) : (a.add n).block = a.block := by unfold Addr.add; split <;> rfl
theorem add_zero (a : Addr) : a.add 0 = a := by simp [Addr.add]

/-- The slice value '.slice A l.length c' reads as the bytes l, below block B. -/
def Bs (w : World) (B : Nat) (A : Option Addr) (l : List UInt8) : Prop :=
  0 < l.length → ∃ ad, A = some ad ∧ ad.block < B ∧ ∀ (k : Nat) (h : k < l.length), w.cell? (ad.add k) = some (.int .u8 (l[k].toNat : Int))

section
variable {w w' : World} {B B' : Nat} {A : Option Addr} {l : List UInt8}

theorem Bs.nil (w : World) (B : Nat) (A : Option Addr) : Bs w B A [] := fun h => absurd h (by simp)

theorem Bs.at_ (h : Bs w B A l) {k : Nat} (hk : k < l.length) :
    ∃ ad, A = some ad ∧ ad.block < B ∧ w.cell? (ad.add k) = some (.int .u8 (l[k].toNat : Int)) := by
  obtain ⟨ad, e, hb, hc⟩ := h (by omega)
  exact ⟨ad, e, hb, hc k hk⟩

theorem Bs.more (h : Bs w B A l) (hB : B ≤ B') : Bs w B' A l := by
  intro h0
  obtain ⟨ad, e, hlt, hc⟩ := h h0
  exact ⟨ad, e, by omega, hc⟩

theorem Bs.below (h : Bs w B A l) (hb : Below B w w') : Bs w' B A l := by
  intro h0
  obtain ⟨ad, e, hlt, hc⟩ := h h0
  exact ⟨ad, e, hlt, fun k hk => (hb.cell (by rw [add_block]; exact hlt)).trans (hc k hk)⟩

theorem Bs.take (h : Bs w B A l) (n : Nat) : Bs w B A (l.take n) := by
  intro h0
  rw [List.length_take] at h0
  obtain ⟨ad, e, hlt, hc⟩ := h (by omega)
  refine ⟨ad, e, hlt, fun k hk => ?_⟩
  rw [List.length_take] at hk
  rw [hc k (by omega), List.getElem_take]

theorem add_add (a : Addr) (i j : Nat) : (a.add i).add j = a.add (i + j) := by
  unfold Addr.add
  by_cases hi : i = 0 <;> by_cases hj : j = 0 <;> simp [hi, hj, Nat.add_assoc]

theorem Bs.drop (h : Bs w B A l) (n : Nat) : Bs w B (A.map (·.add n)) (l.drop n) := by
  intro h0
  rw [List.length_drop] at h0
  obtain ⟨ad, e, hlt, hc⟩ := h (by omega)
  subst e
  refine ⟨ad.add n, rfl, by rw [add_block]; exact hlt, fun k hk => ?_⟩
  rw [List.length_drop] at hk
  rw [add_add, hc (n + k) (by omega), List.getElem_drop]

theorem Bs.cut (h : Bs w B A l) (n cap : Nat) (hc : l.length ≤ cap) : Bs w B (if cap = n then A else A.map (·.add n)) (l.drop n) := by
  by_cases e : cap = n
  · rw [if_pos e, List.drop_of_length_le (by omega)]; exact Bs.nil _ _ _
  · rw [if_neg e]; exact h.drop n

theorem Bs.drew (h : Bs w B A l) : Bs w.drew B A l := h

theorem Bs.conv (h : Bs w B A l) (c : Nat) :
    (convert 22 9 (.slice A l.length c)).run Tryd.prog w = .ok (.string ⟨l.toArray⟩) w := by
  cases A with
  | none =>
    have hl : l = [] := by
      cases l with
      | nil => rfl
      | cons x r => obtain ⟨ad, e, _⟩ := h (by simp); cases e
    subst hl
    exact run_convert_bytes_nil w 22 5 Tryd.underlying22 Tryd.underlying5 _ c _ Tryd.underlying9
  | some ad =>
    have hc : ∀ (k : Nat) (hk : k < l.length), w.cell? (ad.add k) = some (.int .u8 (l[k].toNat : Int)) := by
      intro k hk
      obtain ⟨ad', e, _, hc⟩ := h.at_ hk
      cases e
      exact hc
    have hload : (loadCells ad l.length).run Tryd.prog w = .ok ((l.map fun b => (b.toNat : Int)).map (Value.int .u8)).toArray w := by
      have := run_loadCells_list (P := Tryd.prog) w ad ((l.map fun b => (b.toNat : Int)).map (Value.int .u8)) (fun j v hj => by
        have hjl : j < l.length := by
          rcases Nat.lt_or_ge j l.length with h | h
          · exact h
          · simp [h] at hj
        rw [hc j hjl]
        simpa [List.getElem?_eq_getElem hjl] using hj)
      simpa using this
    rw [run_convert_bytes_string w 22 9 5 _ l.length c Tryd.underlying22 Tryd.underlying5 Tryd.underlying9, run_bytesToString w _ l.length c _ hload, foldl_push_bytes]
    have : (l.map fun b => (b.toNat : Int)).map (fun n => UInt8.ofNat n.toNat) = l := by
      rw [List.map_map]
      conv => rhs; rw [← List.map_id l]
      exact List.map_congr_left fun x _ => by simp
    rw [this]
    simp [ByteArray.empty, ByteArray.emptyWithCapacity]
    rfl
end

/-- A row of bytes that the call owns (its blocks: from B on), holding l. -/
def Row (B : Nat) (w : World) (v : Value) (l : List UInt8) : Prop := w.ownsRow B 5 1 v l.length (Lib.byteCells l)

section
variable {w w' : World} {B : Nat} {v : Value} {l : List UInt8}

theorem Row.nil (B : Nat) (w : World) : Row B w (.slice none 0 0) [] := World.ownsRow_nil w B _ 1
theorem Row.alloc (h : Row B w v l) (o : Obj) : Row B (w.alloc o) v l := World.ownsRow.alloc h o
theorem Row.drew (h : Row B w v l) : Row B w.drew v l := h
theorem Row.below (h : Row B w v l) (hb : Below w.heap.size w w') : Row B w' v l :=
  World.ownsRow.kept (row := none) h ⟨hb.os, hb.tape, hb.output, hb.size, fun k hk _ => hb.block k hk⟩ (by cases hv : v.ownBlock <;> simp)

theorem Row.form (h : Row B w v l) : ∃ A c, v = .slice A l.length c ∧ Bs w w.heap.size A l := by
  rcases h.2 with ⟨rfl, h0⟩ | ⟨g, cap, cur, rfl, hb, hg, rest⟩
  · exact ⟨none, 0, by rw [h0], fun h1 => by omega⟩
  · refine ⟨_, cap, rfl, fun _ => ⟨⟨g, 0, none⟩, rfl, (Array.getElem?_eq_some_iff.1 hg).1, fun k hk => ?_⟩⟩
    refine World.ownsRow.cells h (g := g) rfl k _ ?_
    simp [Lib.byteCells, List.getElem?_eq_getElem hk]

/-- 'append(v, c)' of one byte to a row of the call's own. -/
theorem app1 {w : World} {ops : Array Oper} {rest : List Oper} {o : Oper} {a : Act} {Q : Exit → Act → World → Prop} (hgd : o.guard = none) (s x : Operand)
    (ho : o.op = .call { callee := .builtin .append, args := #[s, x], argTypes := #[22, 22] })
    (B : Nat) (v : Value) (l : List UInt8) (hs : a.eval s = v) (hown : Row B w v l)
    (ad : Addr) (cp : Nat) (c : UInt8) (hx : a.eval x = .slice (some ad) 1 cp) (hc : w.cell? ad = some (.int .u8 (c.toNat : Int)))
    (hl : l.length + 1 ≤ 140737488355328) (hB : B ≤ w.heap.size)
    (h : ∀ v' w', Row B w' v' (l ++ [c]) → Below B w w' → wpList Tryd.prog ops Q rest (a.put o.dst v') w') : wpList Tryd.prog ops Q (o :: rest) a w := by
  obtain ⟨i0, hi, hz0, hz1, hz2⟩ := info_parts infoByte
  refine wpList_append_own w hgd s x 22 ho B 5 i0 (.int .u8 0) 1 1 Tryd.underlying22 hi hz0 hz1 hz2 rfl (by decide) v l.length _ hs hown ad 1 cp [.int .u8 (c.toNat : Int)] hx rfl ?_ ?_ (by unfold maxLen; omega) (by omega) hB ?_
  · intro j u hj
    match j, hj with
    | 0, hj => simp at hj; subst hj; rw [add_zero]; exact hc
  · intro u hu; simp at hu; subst hu; rfl
  · intro v' w' h1 hg _
    refine h v' w' ?_ ((Below.refl B w).grown hg hB fun k hk => (World.ownsRow.lt hown k hk).1)
    unfold Row
    rw [Lib.byteCells_append]
    simpa [Lib.byteCells] using h1
end

theorem run_app_nil (w : World) (B : Nat) (ty : TypeId) (v : Value) (l : List UInt8) (hown : Row B w v l) (c : Nat) :
    (Builtin.append_ #[22, 22] ty #[v, .slice none 0 c]).run Tryd.prog w = .ok v w := by
  obtain ⟨i0, hi, hz0, hz1, hz2⟩ := info_parts infoByte
  unfold Row at hown
  generalize l.length = n at hown
  generalize Lib.byteCells l = xs at hown
  rcases hown.2 with ⟨rfl, rfl⟩ | ⟨g, cap, cur, rfl, _, _, hcap, _⟩
  · simp [Builtin.append_, run_underlying Tryd.underlying22, sizeOf, typeInfo, hi, Builtin.lenOf, Builtin.firstCells]
  · simp [Builtin.append_, run_underlying Tryd.underlying22, sizeOf, typeInfo, hi, Builtin.lenOf, Builtin.firstCells, hcap, storeCells]

/-- 'append(v, s...)' of a slice that reads as bytes, nil let in, to a row of the call's own. -/
theorem appN {w : World} {ops : Array Oper} {rest : List Oper} {o : Oper} {a : Act} {Q : Exit → Act → World → Prop} (hgd : o.guard = none) (s x : Operand)
    (ho : o.op = .call { callee := .builtin .append, args := #[s, x], argTypes := #[22, 22] })
    (B N : Nat) (v : Value) (l : List UInt8) (hs : a.eval s = v) (hown : Row B w v l)
    (A : Option Addr) (m : List UInt8) (cp : Nat) (hx : a.eval x = .slice A m.length cp) (hm : Bs w N A m)
    (hl : l.length + m.length ≤ 140737488355328) (hB : B ≤ w.heap.size)
    (h : ∀ v' w', Row B w' v' (l ++ m) → Below B w w' → wpList Tryd.prog ops Q rest (a.put o.dst v') w') : wpList Tryd.prog ops Q (o :: rest) a w := by
  cases A with
  | none =>
    have hm0 : m = [] := by
      cases m with
      | nil => rfl
      | cons y r => obtain ⟨ad, e, _⟩ := hm (by simp); cases e
    subst hm0
    refine wpList_plain hgd fun K hK => ?_
    unfold Oper.wp execOp
    simp only [ho, resolve, invoke, builtin, Sem.run_bind, Sem.run_pure, Result.andThen_ok, List.map_toArray, List.map_cons, List.map_nil, hs, hx, List.length_nil, run_app_nil w B o.type v l hown cp]
    exact hK _ _ (h v w (by simpa using hown) (Below.refl _ _))
  | some ad =>
    obtain ⟨i0, hi, hz0, hz1, hz2⟩ := info_parts infoByte
    refine wpList_append_own w hgd s x 22 ho B 5 i0 (.int .u8 0) 1 1 Tryd.underlying22 hi hz0 hz1 hz2 rfl (by decide) v l.length _ hs hown ad m.length cp (Lib.byteCells m) hx (by rw [Lib.byteCells_length, Nat.mul_one]) ?_ ?_ (by unfold maxLen; omega) (by omega) hB ?_
    · intro j u hj
      have hjl : j < m.length := by
        rcases Nat.lt_or_ge j m.length with h | h
        · exact h
        · simp [Lib.byteCells, h] at hj
      obtain ⟨ad', e, _, hc⟩ := hm.at_ hjl
      cases e
      rw [hc]
      simpa [Lib.byteCells, List.getElem?_eq_getElem hjl] using hj
    · intro u hu
      simp only [Lib.byteCells, List.mem_map] at hu
      obtain ⟨b, _, rfl⟩ := hu
      rfl
    · intro v' w' h1 hg _
      refine h v' w' ?_ ((Below.refl B w).grown hg hB fun k hk => (World.ownsRow.lt hown k hk).1)
      unfold Row
      rw [Lib.byteCells_append, List.length_append]
      exact h1

/-- A row without a place, as '[]byte{}' lays it. -/
theorem Row.empty (B : Nat) (w : World) (hB : B ≤ w.heap.size) : Row B (w.alloc (.cells #[] 5)) (.slice (some ⟨w.heap.size, 0, none⟩) 0 0) [] :=
  World.ownsRow_made w #[] 0 hB (by decide) rfl

/-- 'make([]byte, 0, c)'. -/
theorem make0 (c : Nat) (hc : c ≤ 140737488355328) (u : World) : (Instr.makeSlice 22 (.int .i64 0) (.int .i64 (c : Int))).run Tryd.prog u =
    .ok (.slice (some ⟨u.heap.size, 0, none⟩) 0 c) (u.alloc (.cells (madeCells #[.int .u8 0] c) 5)) := by
  obtain ⟨i0, hi, hz0, hz1, hz2⟩ := info_parts infoByte
  have h := run_make (P := Tryd.prog) u 22 5 i0 (.int .u8 0) Tryd.underlying22 hi hz0 .i64 .i64 0 (c : Int) (by omega) (by omega) (by rw [hz2]; omega) (by omega)
  simpa [hz1, Value.cells] using h

theorem Row.made (B c : Nat) (u : World) (hB : B ≤ u.heap.size) (hc : c ≤ maxLen) : Row B (u.alloc (.cells (madeCells #[.int .u8 0] c) 5)) (.slice (some ⟨u.heap.size, 0, none⟩) 0 c) [] :=
  World.ownsRow_made u _ c hB hc (by simp [size_madeCells])

theorem new1 (w : World) (n : Int) (c : UInt8) (h : n = (c.toNat : Int)) : (w.alloc (.cells #[.int .u8 n] 5)).cell? ⟨w.heap.size, 0, none⟩ = some (.int .u8 (c.toNat : Int)) := by
  subst h
  unfold World.cell?
  simp only [heap_alloc_new]
  rfl

/-- A row of one byte that has just been laid, whatever its mark. -/
theorem Bs.lit (w : World) (c : UInt8) (n : Int) (hn : n = (c.toNat : Int)) (fz : Nat × Nat) (B : Nat) (hB : w.heap.size < B) : Bs (w.alloc (.cells #[.int .u8 n] 5 fz)) B (some ⟨w.heap.size, 0, none⟩) [c] := by
  subst hn
  intro _
  refine ⟨_, rfl, hB, fun k hk => ?_⟩
  obtain rfl : k = 0 := by simp at hk; omega
  rw [add_zero]
  unfold World.cell?
  simp only [heap_alloc_new]
  rfl

theorem drewN {B : Nat} {a w : World} (h : Below B a w) (n : Nat) : Below B a (w.drewN n) := h.trans ⟨rfl, rfl, rfl, Nat.le_refl _, fun _ _ => rfl⟩

theorem tup2 {k : IntKind} {a b : Int} {v : Value} (h : a = b) : Ending.returned (.tuple #[.int k a, v]) = Ending.returned (.tuple #[.int k b, v]) := by rw [h]
end Go.Proofs.YtmmmogccjopfeaaDoor.BytesW
