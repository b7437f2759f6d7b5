/-
  From a law's arguments, as data, to what a walk is told of them: arrays and structs by value. Conditions: in each statement.
-/
import Derived.Test.YtfngomlknhappaaDoorFrame
import Derived.Deep.Strs
import Derived.Lib.SmallJoins
namespace Go.Proofs.YtfngomlknhappaaDoor.FrameAgg
open Go.ChangeShapes Go.WideShapes Go.ChangeAt Go.RowKit BytesW

/-- The integer that a cell holds. -/
def intAt : Option Value → Int
  | some (.int _ z) => z
  | _ => 0

section
variable {H : Type} {enc : TypeId × Value → H} {P : Program} {w : World} {base : Nat} {sp : Nat → Bool} {hd : Bool} {fuel : Nat} {t e : TypeId} {n : Nat} {k : IntKind} {cs : List Value} {x : DataW H × List MemPlace}

/-- What an array by value holds, part by part. -/
theorem arr_open (ht : P.underlying t = some (.array n e)) (h : DataW.trod enc P w base sp hd fuel t cs = some x) :
    cs.length = P.cellsOf t ∧ ∃ (m : Nat) (xs : List (DataW H × List MemPlace)), x = (.agg (xs.map (·.1)), xs.flatMap (·.2)) ∧ xs.length = n ∧ ∀ i, i < n → DataW.trod enc P w base sp hd m e ((cs.drop (i * P.cellsOf e)).take (P.cellsOf e)) = xs[i]? := by
  cases fuel with
  | zero => simp [DataW.trod] at h
  | succ m =>
    unfold DataW.trod at h
    rw [ht] at h
    split at h <;> simp_all
    obtain ⟨hl, xs, hp, hx⟩ := h
    exact ⟨m, xs, hx.symm, by simpa using mapM_some_length hp, fun i hi => by simpa using mapM_some_get hp i i (by simp [hi])⟩
/-- An array of integers by value. -/
theorem arr_ints (ht : P.underlying t = some (.array n e)) (he : P.underlying e = some (.int k)) (hc : P.cellsOf e = 1) (hn : P.cellsOf t = n) (h : DataW.trod enc P w base sp hd fuel t cs = some x) :
    ∃ zs : List Int, zs.length = n ∧ cs = zs.map (Value.int k) ∧ (∀ z ∈ zs, (Lit.int k z).wf = true) ∧ x = (.agg (zs.map fun z => .lit (.int k z)), []) := by
  obtain ⟨hl, m, xs, hx, hxl, hi⟩ := arr_open ht h
  rw [hn] at hl
  simp only [hc, Nat.mul_one] at hi
  have each : ∀ i, i < n → ∃ z, cs[i]? = some (.int k z) ∧ (Lit.int k z).wf = true ∧ xs[i]? = some (.lit (.int k z), []) := by
    intro i hin
    have h1 := hi i hin
    rw [List.getElem?_eq_getElem (by omega : i < xs.length)] at h1
    obtain ⟨z, ez, ey, wz⟩ := DataW.trod_int he h1
    refine ⟨z, ?_, wz, by rw [List.getElem?_eq_getElem (by omega : i < xs.length), ey]⟩
    have h2 := congrArg (fun l => l[0]?) ez
    simpa [List.getElem?_take, List.getElem?_drop] using h2
  refine ⟨(List.range n).map fun i => intAt cs[i]?, by simp, ?_, ?_, ?_⟩
  · apply List.ext_getElem
    · simp [hl]
    · intro i h1 h2
      obtain ⟨z, ez, _⟩ := each i (by omega)
      rw [List.getElem?_eq_getElem h1] at ez
      simp only [Option.some.injEq] at ez
      simp [ez, List.getElem?_eq_getElem h1, intAt]
  · intro z hz
    obtain ⟨i, hin, rfl⟩ := List.mem_map.1 hz
    obtain ⟨z, ez, wz, _⟩ := each i (List.mem_range.1 hin)
    rw [ez]
    exact wz
  · rw [hx]
    have e1 : xs = (List.range n).map fun i => ((DataW.lit (.int k (intAt cs[i]?)) : DataW H), ([] : List MemPlace)) := by
      apply List.ext_getElem
      · simp [hxl]
      · intro i h1 h2
        obtain ⟨z, ez, _, ex⟩ := each i (by omega)
        rw [List.getElem?_eq_getElem h1] at ex
        simp only [Option.some.injEq] at ex
        simp [ex, ez, intAt]
    rw [e1]
    simp [List.flatMap_eq_nil_iff]

/-- A struct's fields, out of its types and offsets. -/
def fieldsOf (P : Program) (t : TypeId) : List (TypeId × Nat) := match P.underlying t with
  | some (.struct fs) => fs.toList.map fun f => (f.type, f.offset)
  | _ => []
theorem fields_of {l : List (TypeId × Nat)} {q : TypeId × Nat} (h : fieldsOf P t = q :: l) : ∃ fs : Array Field, P.underlying t = some (.struct fs) ∧ fs.toList.map (fun f => (f.type, f.offset)) = q :: l := by
  unfold fieldsOf at h
  split at h
  · rename_i fs hu; exact ⟨fs, hu, h⟩
  · cases h
theorem fields2 {a b : TypeId × Nat} (h : fieldsOf P t = [a, b]) : ∃ f0 f1 : Field, P.underlying t = some (.struct #[f0, f1]) ∧ (f0.type = a.1 ∧ f0.offset = a.2) ∧ f1.type = b.1 ∧ f1.offset = b.2 := by
  obtain ⟨fs, hu, hm⟩ := fields_of h
  obtain ⟨l⟩ := fs
  match l, hm with
  | [f0, f1], hm => simp at hm; exact ⟨f0, f1, hu, by simp [← hm.1], by simp [← hm.2]⟩
theorem fields3 {a b c : TypeId × Nat} (h : fieldsOf P t = [a, b, c]) : ∃ f0 f1 f2 : Field, P.underlying t = some (.struct #[f0, f1, f2]) ∧ (f0.type = a.1 ∧ f0.offset = a.2) ∧ (f1.type = b.1 ∧ f1.offset = b.2) ∧ f2.type = c.1 ∧ f2.offset = c.2 := by
  obtain ⟨fs, hu, hm⟩ := fields_of h
  obtain ⟨l⟩ := fs
  match l, hm with
  | [f0, f1, f2], hm => simp at hm; exact ⟨f0, f1, f2, hu, by simp [← hm.1], by simp [← hm.2.1], by simp [← hm.2.2]⟩
end

/-- One cell that reads as a slice. -/
theorem slice_cell {H : Type} {enc : TypeId × Value → H} {P : Program} {w : World} {base : Nat} {sp : Nat → Bool} {hd : Bool} {fuel : Nat} {t e : TypeId} {cs : List Value} {x : DataW H × List MemPlace} (ht : P.underlying t = some (.slice e)) (h : DataW.trod enc P w base sp hd fuel t cs = some x) :
    ∃ A n c, cs = [.slice A n c] := by
  rcases DataW.trod_slice ht h with ⟨rfl, _⟩ | ⟨a, len, cap, _, _, _, _, rfl, _⟩
  · exact ⟨none, 0, 0, rfl⟩
  · exact ⟨some a, len, cap, rfl⟩
end Go.Proofs.YtfngomlknhappaaDoor.FrameAgg
