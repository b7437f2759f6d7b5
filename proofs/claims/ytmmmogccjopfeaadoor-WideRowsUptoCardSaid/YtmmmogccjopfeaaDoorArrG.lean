/-
  Array variables through a world in which one block alone is written; variables laid and filled at once. No program is named here. Conditions: in each statement.
-/
import Derived.Test.YtmmmogccjopfeaaDoorArrX
import Derived.Test.YtmmmogccjopfeaaDoorBytesX
import Derived.Laws.CopyOwn
namespace Go.Proofs.YtmmmogccjopfeaaDoor.ArrG
open Go.RowKit BytesW ArrW

theorem arr_grown {w w' : World} {g r : Nat} {t : TypeId} {xs : List Value} (h : Arr w g t xs) (hg : w.grownBy w' (some r)) (hne : g ≠ r) : Arr w' g t xs :=
  (hg.block g h.lt (fun e => hne (by cases e; rfl))).trans h
theorem bs_grown {w w' : World} {B r : Nat} {A : Option Addr} {l : List UInt8} (h : Bs w B A l) (hg : w.grownBy w' (some r)) (hne : B ≤ r) (hB : B ≤ w.heap.size) : Bs w' B A l := by
  intro h0
  obtain ⟨ad, e, hlt, hc⟩ := h h0
  subst e
  exact ⟨ad, rfl, hlt, fun k hk => (World.cell?_of_block (hg.block _ (by rw [add_block]; omega) (by rw [add_block]; intro e; cases e; omega))).trans (hc k hk)⟩
theorem grownBelow {w w' : World} {g B : Nat} (h : w.grownBy w' (some g)) (hg : B ≤ g) (hB : B ≤ w.heap.size) : Below B w w' :=
  ⟨h.os, h.tape, h.output, h.size, fun k hk => h.block k (by omega) (fun e => by cases e; omega)⟩
theorem grownOf {w w' : World} {g : Nat} (h : Below w.heap.size w w') : w.grownBy w' (some g) := ⟨h.os, h.tape, h.output, h.size, fun j hj _ => h.block j hj⟩
theorem grownTrans {a b c : World} {row : Option Nat} (h : a.grownBy b row) (k : b.grownBy c row) : a.grownBy c row :=
  ⟨k.os.trans h.os, k.tape.trans h.tape, k.output.trans h.output, Nat.le_trans h.size k.size, fun i hi hne => (k.block i (Nat.lt_of_lt_of_le hi h.size) hne).trans (h.block i hi hne)⟩
theorem grownSet (w : World) (g k : Nat) (u : Value) : w.grownBy (w.setCell ⟨g, k, none⟩ u) (some g) := by
  refine ⟨rfl, rfl, rfl, by simp, fun i _ hne => ?_⟩
  exact Below.heap_setCell w ⟨g, k, none⟩ u i (fun e => hne (by rw [e]))
theorem grownRefl (w : World) (r : Option Nat) : w.grownBy w r := ⟨rfl, rfl, rfl, Nat.le_refl _, fun _ _ _ => rfl⟩
theorem grownDrewN (w : World) (n : Nat) (r : Option Nat) : w.grownBy (w.drewN n) r := ⟨rfl, rfl, rfl, Nat.le_refl _, fun _ _ _ => rfl⟩
theorem grownDrew (w : World) (r : Option Nat) : w.grownBy w.drew r := ⟨rfl, rfl, rfl, Nat.le_refl _, fun _ _ _ => rfl⟩

/-- Two variables laid, one behind the other. -/
theorem start2 {w W : World} {X Y : Array Value} {t u : TypeId} (h : (w.alloc (.cells X t)).alloc (.cells Y u) = W) : Arr W w.heap.size t X.toList ∧ Arr W (w.heap.size + 1) u Y.toList ∧ Below w.heap.size w W ∧ W.heap.size = w.heap.size + 2 := by
  subst h
  have a1 := Arr.new (w.alloc (.cells X t)) Y u
  have hsz : (w.alloc (.cells X t)).heap.size = w.heap.size + 1 := by simp
  rw [hsz] at a1
  exact ⟨(Arr.new w X t).alloc _, a1, ((Below.refl w.heap.size w).alloc (Nat.le_refl _) _).alloc (by simp) _, by simp⟩
theorem start1 {w W : World} {X : Array Value} {t : TypeId} (h : w.alloc (.cells X t) = W) : Arr W w.heap.size t X.toList ∧ Below w.heap.size w W ∧ W.heap.size = w.heap.size + 1 := by
  subst h
  exact ⟨Arr.new w X t, (Below.refl w.heap.size w).alloc (Nat.le_refl _) _, by simp⟩
theorem start3 {w W : World} {X Y Z : Array Value} {t u v : TypeId} (h : ((w.alloc (.cells X t)).alloc (.cells Y u)).alloc (.cells Z v) = W) :
    Arr W w.heap.size t X.toList ∧ Arr W (w.heap.size + 1) u Y.toList ∧ Arr W (w.heap.size + 2) v Z.toList ∧ Below w.heap.size w W ∧ W.heap.size = w.heap.size + 3 := by
  obtain ⟨W2, h2⟩ : ∃ W2, (w.alloc (.cells X t)).alloc (.cells Y u) = W2 := ⟨_, rfl⟩
  obtain ⟨a, b, c, d⟩ := start2 h2
  rw [h2] at h
  obtain ⟨e, f, g⟩ := start1 h
  rw [d] at e f g
  exact ⟨a.below f (by omega), b.below f (by omega), e, c.trans (f.mono (by omega)), g⟩

theorem belowN (B : Nat) (w : World) (n : Nat) : Below B w (w.drewN n) := ⟨rfl, rfl, rfl, Nat.le_refl _, fun _ _ => rfl⟩
/-- A variable laid and filled at once. -/
theorem filled {w W : World} {X : Array Value} {t : TypeId} {ys : List Value} (h : (w.alloc (.cells X t)).setRow w.heap.size ys.toArray = W) : Arr W w.heap.size t ys ∧ Below w.heap.size w W ∧ W.heap.size = w.heap.size + 1 := by
  subst h
  exact ⟨(Arr.new w X t).row ys, below_row ((Below.refl w.heap.size w).alloc (Nat.le_refl _) _) (Nat.le_refl _) _, by simp⟩

theorem bs_keep {w w' : World} {g : Nat} {A : Option Addr} {l : List UInt8} (h : Bs w w.heap.size A l) (hg : w.grownBy w' (some g)) (hne : 0 < l.length → ∀ ad, A = some ad → ad.block ≠ g) : Bs w' w'.heap.size A l := by
  intro h0
  obtain ⟨ad, e, hlt, hcl⟩ := h h0
  exact ⟨ad, e, Nat.lt_of_lt_of_le hlt hg.size, fun k hk => (World.cell?_of_block (hg.block _ (by rw [add_block]; exact hlt) (by rw [add_block]; intro q; cases q; exact hne h0 ad e rfl))).trans (hcl k hk)⟩
/-- Another block than g. -/
def Off (g : Nat) (A : Option Addr) (l : List UInt8) : Prop := 0 < l.length → ∀ ad, A = some ad → ad.block ≠ g
theorem Off.cut {g : Nat} {A : Option Addr} {l : List UInt8} (h : Off g A l) (n cap : Nat) : Off g (if cap = n then A else A.map (·.add n)) (l.drop n) := by
  intro h0 ad e
  rw [List.length_drop] at h0
  split at e
  · exact h (by omega) ad e
  · cases A with
    | none => cases e
    | some a =>
      cases e
      rw [add_block]
      exact h (by omega) a rfl
/-- 'copy' of bytes into a row that is known whole, as an operation. -/
theorem copyO {P : Program} {w : World} {o : Oper} {a : Act} {K : Act → World → Prop} {Q : Exit → Act → World → Prop} (d s : Operand) (dT sT : TypeId)
    (ho : o.op = .call { callee := .builtin .copy, args := #[d, s], argTypes := #[dT, sT] }) (elem : TypeId) (hu : P.underlying dT = some (.slice elem)) (hsz : (P.info? elem).map (·.size) = some 1)
    (g off dLen dCap : Nat) (ad : Addr) (sLen sCap : Nat) (hd : a.eval d = .slice (some ⟨g, off, none⟩) dLen dCap) (hs : a.eval s = .slice (some ad) sLen sCap)
    (cur : List Value) (t : TypeId) (hg : Arr w g t cur) (cs : List Value) (hn : cs.length = Nat.min sLen dLen)
    (hsrc : ∀ j v, cs[j]? = some v → w.cell? (ad.add j) = some v) (hfit : off + cs.length ≤ cur.length) (h1 : ∀ v ∈ cs, v.oneCell' = true)
    (h : K (a.put o.dst (goInt cs.length)) (w.setRow g (cur.take off ++ (cs ++ cur.drop (off + cs.length))).toArray)) : o.wp P a w K Q := by
  have hrun := run_copy_row (P := P) w dT sT o.type elem g off dLen dCap ad sLen sCap cur.toArray t cs hu hsz hg hn hsrc (by simpa using hfit) h1
  unfold Oper.wp
  simp [execOp, ho, resolve, invoke, builtin, hd, hs, hrun, Result.andThen]
  exact h
end Go.Proofs.YtmmmogccjopfeaaDoor.ArrG
