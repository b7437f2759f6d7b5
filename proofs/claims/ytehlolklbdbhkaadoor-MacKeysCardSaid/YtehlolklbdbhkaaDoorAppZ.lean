/-
  'append(v, make([]byte, m)...)' to a row of bytes that the call owns. Conditions: bounds in each statement.
-/
import Derived.Test.YtehlolklbdbhkaaDoorKb
import Derived.Lib.AppendZeros
import Derived.Laws.CopyOwn
namespace Go.Proofs.YtehlolklbdbhkaaDoor.AppZ
open Go.RowKit BytesW

section
variable {P : Program} (w : World)
theorem zeros_list (m : Nat) : (Builtin.zeroCells #[.int .u8 0] m).toList = List.replicate m (Value.int .u8 0) := by
  apply List.ext_getElem
  · simp [Builtin.zeroCells]
  · intro i h1 h2
    simp [Builtin.zeroCells, Nat.mod_one]

theorem run_zeros_room (t tn ty e : TypeId) (i : TypeInfo) (k kn : IntKind) (ht : P.underlying t = some (.slice e)) (htn : P.underlying tn = some (.int kn)) (hi : P.info? e = some i) (hz : i.zero = some (.int .u8 0)) (hs : i.size = 1) (hb : i.bytes = 1)
    (g sLen sCap : Nat) (cur : Array Value) (hg : w.heap[g]? = some (.cells cur e (0, 0))) (m : Nat) (hm : m ≤ 281474976710656) (hroom : sLen + m ≤ sCap) (hfit : sLen + m ≤ cur.size) :
    (Builtin.append_ #[t, tn] ty #[.slice (some ⟨g, 0, none⟩) sLen sCap, .int k (m : Int)]).run P w =
      .ok (.slice (some ⟨g, 0, none⟩) (sLen + m) sCap) (w.setRow g (cur.toList.take sLen ++ List.replicate m (Value.int .u8 0) ++ cur.toList.drop (sLen + m)).toArray) := by
  have hst := run_storeCells_at P g sLen e (List.replicate m (Value.int .u8 0)) 0 cur w hg (by simpa using hfit) (fun v hv => by rw [List.eq_of_mem_replicate hv]; rfl)
  simp only [Nat.add_zero, List.length_replicate] at hst
  have hw : IntKind.i64.wrap (m : Int) = m := by rw [IntKind.wrap_i64]; omega
  have hneg : ¬ ((m : Int) < 0) := by omega
  have h48i : ¬ (281474976710656 < (m : Int)) := by omega
  by_cases h0 : m = 0
  · subst h0
    have hw0 : IntKind.i64.wrap 0 = 0 := rfl
    have hr0 : sLen ≤ sCap := hroom
    simp only [List.replicate_zero, List.append_nil, Nat.add_zero] at hst ⊢
    simp [Builtin.append_, run_underlying ht, run_underlying htn, sizeOf, typeInfo, hi, hs, hb, asInt, asIntOf, hw0, hr0, Addr.add_lit, hst]
  · simp [Builtin.append_, run_underlying ht, run_underlying htn, sizeOf, typeInfo, zeroValue, hi, hz, hs, hb, asInt, asIntOf, hw, hneg, h48i, h0, hroom, Addr.add_lit, Value.cells, zeros_list, hst]

theorem run_zeros_grow (t tn ty e : TypeId) (i : TypeInfo) (k kn : IntKind) (ht : P.underlying t = some (.slice e)) (htn : P.underlying tn = some (.int kn)) (hi : P.info? e = some i) (hz : i.zero = some (.int .u8 0)) (hs : i.size = 1) (hb : i.bytes = 1)
    (b : Addr) (sLen sCap : Nat) (olds : List Value) (hlo : olds.length = sLen) (holds : ∀ j v, olds[j]? = some v → w.cell? (b.add j) = some v) (m : Nat)
    (hp : 0 < m) (hg : sCap < sLen + m) (hm : sLen + m ≤ 140737488355328) :
    (Builtin.append_ #[t, tn] ty #[.slice (some b) sLen sCap, .int k (m : Int)]).run P w =
      .ok (.slice (some ⟨w.heap.size, 0, none⟩) (sLen + m) (grownCap w (sLen + m) sCap e))
        (w.drew.alloc (.cells (olds.toArray ++ (List.replicate m (Value.int .u8 0)).toArray ++ Builtin.zeroCells #[.int .u8 0] (grownCap w (sLen + m) sCap e - (sLen + m))) e)) := by
  have hw : IntKind.i64.wrap (m : Int) = m := by rw [IntKind.wrap_i64]; omega
  have hneg : ¬ ((m : Int) < 0) := by omega
  have h48i : ¬ (281474976710656 < (m : Int)) := by omega
  have hn : ¬ (sLen + m ≤ sCap) := by omega
  have h63' : ¬ (9223372036854775807 < ((sLen : Int) + (m : Int))) := by omega
  have hf := growslice_fits (need := sLen + m) (old := sCap) (bytes := 1) (by omega) (by omega)
  have h48' : ¬ (281474976710656 < Builtin.nextslicecap (sLen + m) sCap) := by omega
  have hfo := run_firstCells_some (P := P) w.drew 1 sLen b sLen sCap olds (by omega) (by simpa using holds)
  have h0 : ¬ m = 0 := by omega
  simp [Builtin.append_, run_underlying ht, run_underlying htn, sizeOf, typeInfo, zeroValue, hi, hz, hs, hb, asInt, asIntOf, hw, hneg, h48i, h0, hn, h63', h48', Question.forced, hfo, newRow, grownCap, Value.cells]
  congr 2
  apply Array.ext'
  simp [zeros_list]
end
/-- .. in a walk, and as an operation. -/
theorem appz_run {w : World} {B : Nat} {v : Value} {l : List UInt8} (h : Row B w v l) (ty : TypeId) (m : Nat) (hm : l.length + m ≤ 140737488355328) (hB : B ≤ w.heap.size) :
    ∃ v' w', (Builtin.append_ #[22, 3] ty #[v, .int .i64 (m : Int)]).run Tryd.prog w = .ok v' w' ∧ Row B w' v' (l ++ List.replicate m 0) ∧ Below B w w' := by
  obtain ⟨i0, hi, hz0, hz1, hz2⟩ := info_parts infoByte
  have hbc : Lib.byteCells (l ++ List.replicate m 0) = Lib.byteCells l ++ List.replicate m (Value.int .u8 0) := by simp [Lib.byteCells]
  have grown : ∀ (old : Nat), old < l.length + m → Row B (w.drew.alloc (.cells ((Lib.byteCells l).toArray ++ (List.replicate m (Value.int .u8 0)).toArray ++ Builtin.zeroCells #[.int .u8 0] (grownCap w (l.length + m) old 5 - (l.length + m))) 5))
      (.slice (some ⟨w.heap.size, 0, none⟩) (l.length + m) (grownCap w (l.length + m) old 5)) (l ++ List.replicate m 0) := by
    intro old ho
    have hge := grownCap_ge w (l.length + m) old 5
    have hcm := grownCap_le_maxLen w (l.length + m) old 5 (by unfold maxLen; omega)
    unfold Row
    rw [hbc, List.length_append, List.length_replicate]
    refine ⟨by simp [Lib.byteCells], .inr ⟨w.heap.size, _, _, rfl, hB, heap_alloc_new w.drew _, hge, hcm, ?_, ?_⟩⟩
    · simp [size_zeroCells, Lib.byteCells]
      omega
    · simp only [Array.toList_append, Nat.mul_one]
      rw [List.take_append_of_le_length (by simp [Lib.byteCells]), List.take_of_length_le (by simp [Lib.byteCells])]
  unfold Row at h
  rcases h.2 with ⟨rfl, h0⟩ | ⟨g, cap, cur, rfl, hb, hg, hcap, hcm, hcs, htake⟩
  · obtain rfl : l = [] := List.length_eq_zero_iff.1 h0
    by_cases hm0 : m = 0
    · subst hm0
      refine ⟨.slice none 0 0, w, ?_, Row.nil _ _, Below.refl _ _⟩
      have hw0 : IntKind.i64.wrap 0 = 0 := rfl
      simp [Builtin.append_, run_underlying Tryd.underlying22, run_underlying Tryd.underlying3, sizeOf, typeInfo, hi, hz2, asInt, asIntOf, hw0]
    · have hr := Lib.run_append_nil_zeros (P := Tryd.prog) w 22 3 ty 5 i0 (.int .u8 0) .i64 .i64 Tryd.underlying22 Tryd.underlying3 hi hz0 m (by omega) (by omega) (by omega) (by rw [hz2]; simp at hm; omega)
      have hgr := grown 0 (by simp; omega)
      refine ⟨_, _, hr, ?_, ((Below.refl _ w).drew.alloc (by simpa using hB) _)⟩
      have e : (Lib.byteCells ([] : List UInt8)).toArray ++ (List.replicate m (Value.int .u8 0)).toArray = Builtin.zeroCells #[.int .u8 0] m := by
        apply Array.ext'
        simp [zeros_list, Lib.byteCells]
      rw [e] at hgr
      simpa [Value.cells] using hgr
  · by_cases hroom : l.length + m ≤ cap
    · have hr := run_zeros_room (P := Tryd.prog) w 22 3 ty 5 i0 .i64 .i64 Tryd.underlying22 Tryd.underlying3 hi hz0 hz1 hz2 g l.length cap cur hg m (by omega) hroom (by omega)
      refine ⟨_, _, hr, ?_, below_setRow (Below.refl _ _) hb _⟩
      unfold Row
      rw [hbc, List.length_append, List.length_replicate]
      refine ⟨by simp [Lib.byteCells], .inr ⟨g, cap, _, rfl, hb, setRow_heap w g cur _ 5 _ hg, hroom, hcm, ?_, ?_⟩⟩
      · simp
        omega
      · simp only [Nat.mul_one] at htake ⊢
        rw [htake, List.take_append_of_le_length (by simp [Lib.byteCells]), List.take_of_length_le (by simp [Lib.byteCells])]
    · have holds : ∀ j u, (Lib.byteCells l)[j]? = some u → w.cell? ((⟨g, 0, none⟩ : Addr).add j) = some u := World.ownsRow.cells h rfl
      have hr := run_zeros_grow (P := Tryd.prog) w 22 3 ty 5 i0 .i64 .i64 Tryd.underlying22 Tryd.underlying3 hi hz0 hz1 hz2 ⟨g, 0, none⟩ l.length cap (Lib.byteCells l) (by simp [Lib.byteCells]) holds m (by omega) (by omega) hm
      exact ⟨_, _, hr, grown cap (by omega), ((Below.refl _ w).drew.alloc (by simpa using hB) _)⟩
end Go.Proofs.YtehlolklbdbhkaaDoor.AppZ
