/-
  A region that draws its order and whose operations only read or call functions that leave what lies below as it is: one walk of the lexical order. Conditions: in the statement.
-/
import Derived.Test.YtmmmogccjopfeaaDoorBytesW
import Derived.Deep.Quiet
import Derived.Deep.QuietTactic
namespace Go.Proofs.YtmmmogccjopfeaaDoor.BytesW
open Go.RowKit

/-- The worlds that leave w as it is, below its own end. -/
def Ab (w : World) : Type := {W : World // Below w.heap.size w W}
def Ab.val {w : World} (x : Ab w) : World := Subtype.val x
theorem Ab.property {w : World} (x : Ab w) : Below w.heap.size w x.val := Subtype.property x
/-- The class of these worlds. -/
def Cl (w W : World) : Prop := ∃ x : Ab w, W = x.val

theorem Cl.of {w W : World} (h : Below w.heap.size w W) : Cl w W := ⟨⟨W, h⟩, rfl⟩
theorem Cl.below {w W : World} (h : Cl w W) : Below w.heap.size w W := by obtain ⟨x, rfl⟩ := h; exact x.property
theorem ab (w : World) : Nonempty (Ab w) := ⟨⟨w, Below.refl _ _⟩⟩

theorem wp_region_cl {P : Program} {id : Nat} {Q : Exit → Act → World → Prop} {a : Act} {w : World} {l : List Oper} (hm : P.follows .mixedOrders = true) (hB : Region.lexB .any l.toArray = true)
    (h : wpQuiet P l.toArray (fun W => ∃ x : Ab w, W = x.val) (fun a' => ∀ W, Below w.heap.size w W → Q .normal a' W) l a) : (Code.region id l.toArray true).wp P Q a w :=
  wp_region_quiet (C := fun W => ∃ x : Ab w, W = x.val) (P := P) (Q := Q) hm hB (Cl.of (Below.refl w.heap.size w).drew) (by
    have e : (fun a' => ∀ W, Below w.heap.size w W → Q .normal a' W) = (fun a' => ∀ w', (∃ x : Ab w, w' = x.val) → Q .normal a' w') := by
      funext a'
      apply propext
      exact ⟨fun h W hW => h W (Cl.below hW), fun h W hW => h W (Cl.of hW)⟩
    rw [← e]
    simpa using h)

/-- A call under a contract that holds in each world of the class. -/
theorem call_cl {P : Program} {f : FuncId} {args : Array Value} {w : World} {v : Value} (h : ∀ W, Below w.heap.size w W → Calls P f args W fun e w' => e = .returned v ∧ Below w.heap.size w w') (x : Ab w) :
    Calls P f args x.val fun e w'' => e = .returned v ∧ ∃ y : Ab w, w'' = y.val :=
  (h x.val x.property).mono fun _ _ ⟨he, hb⟩ => ⟨he, Cl.of hb⟩
end Go.Proofs.YtmmmogccjopfeaaDoor.BytesW
