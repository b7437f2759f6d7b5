/-
  SHA-256's blocks and digest: more plain mathematics; states of eight small words; array variables through a world in which one block alone is written. No program is named here. Conditions: in each statement.
-/
import Derived.Test.YtnlhcogmccladaaDoorKa
import Derived.Test.YtnlhcogmccladaaDoorKb
import Derived.Test.YtnlhcogmccladaaDoorKc
namespace Go.Proofs.YtnlhcogmccladaaDoor.HashX
open Go.RowKit BytesW WordsW ArrW HashM

/-- Eight words. -/
def Sm (S : List Nat) : Prop := S.length = 8 ∧ ∀ x ∈ S, x < 4294967296
theorem Sm.at_ {S : List Nat} (h : Sm S) (k : Nat) : S.getD k 0 < 4294967296 := by
  rw [List.getD_eq_getElem?_getD]
  cases e : S[k]? with
  | none => simp
  | some x => exact h.2 x (List.mem_of_getElem? e)
theorem eight8 {r : List Nat} (h : r.length = 8) : ∃ a b c d e f g i, r = [a, b, c, d, e, f, g, i] := by
  match r, h with
  | [a, b, c, d, e, f, g, i], _ => exact ⟨a, b, c, d, e, f, g, i, rfl⟩
theorem sm_block (s : List Nat) (b : List UInt8) (h : s.length = 8) : Sm (block s b) := by
  refine ⟨by simp [block, St.toList, h], fun x hx => ?_⟩
  unfold block at hx
  obtain ⟨k, hk, rfl⟩ := List.mem_iff_getElem.1 hx
  rw [List.getElem_zipWith]
  omega
theorem sm_run (b : List UInt8) : ∀ s, Sm s → Sm (run s b) := by
  induction hn : b.length using Nat.strongRecOn generalizing b with
  | _ n ih =>
    intro s hs
    rw [run]
    split
    · subst hn
      exact ih _ (by rw [List.length_drop]; omega) _ rfl _ (sm_block _ _ hs.1)
    · exact hs
theorem sm_IV : Sm IV := ⟨rfl, by decide⟩
theorem run_next (S : List Nat) (P : List UInt8) (h : 64 ≤ P.length) : run S P = run (block S (P.take 64)) (P.drop 64) := by rw [run, dif_pos h]
theorem run_stop (S : List Nat) (P : List UInt8) (h : P.length < 64) : run S P = S := by rw [run, dif_neg (by omega)]

/-- Byte p of a digest. -/
def dbyte (S : List Nat) (p : Nat) : UInt8 := UInt8.ofNat (S.getD (p / 4) 0 / 2 ^ (24 - p % 4 * 8))
theorem digest_db (S : List Nat) (h : S.length = 8) : digest S = (List.range 32).map (dbyte S) := by
  obtain ⟨a, b, c, d, e, f, g, i, rfl⟩ := eight8 h
  simp only [digest, List.flatMap_cons, List.flatMap_nil, VecM.be]
  simp [List.range, List.range.loop, dbyte, Nat.div_div_eq_div_mul]
theorem digest_of (S : List Nat) (h : S.length = 8) (D : List UInt8) (hl : D.length = 32) (hD : ∀ p, p < 32 → D.getD p 0 = dbyte S p) : D = digest S := by
  rw [digest_db S h]
  apply List.ext_getElem
  · simp [hl]
  · intro p h1 h2
    have := hD p (by omega)
    rw [List.getD_eq_getElem?_getD, List.getElem?_eq_getElem h1] at this
    simpa using this
theorem digest_len (S : List Nat) (h : S.length = 8) : (digest S).length = 32 := by rw [digest_db S h]; simp

theorem wc_one (l : List Nat) : ∀ v ∈ wc l, v.oneCell' = true := by
  intro v hv
  simp only [wc, List.mem_map] at hv
  obtain ⟨x, _, rfl⟩ := hv
  rfl
theorem wc_getD (S : List Nat) (k : Nat) (h : k < S.length) : (wc S)[k]? = some (.int .u32 ((S.getD k 0 : Nat) : Int)) := by
  unfold wc
  rw [List.getElem?_map, List.getElem?_eq_getElem h]
  simp [List.getD_eq_getElem?_getD, List.getElem?_eq_getElem h]
theorem wc_set (S : List Nat) (k x : Nat) : (wc S).set k (.int .u32 (x : Int)) = wc (S.set k x) := by unfold wc; rw [List.map_set]
theorem bc_set (L : List UInt8) (k : Nat) (x : UInt8) : (Lib.byteCells L).set k (.int .u8 (x.toNat : Int)) = Lib.byteCells (L.set k x) := by simp [Lib.byteCells, List.map_set]
theorem bc_getD (L : List UInt8) (k : Nat) (h : k < L.length) : (Lib.byteCells L)[k]? = some (.int .u8 ((L.getD k 0).toNat : Int)) := by
  unfold Lib.byteCells
  rw [List.getElem?_map, List.getElem?_eq_getElem h]
  simp [List.getD_eq_getElem?_getD, List.getElem?_eq_getElem h]

theorem arr_grown {w w' : World} {g r : Nat} {t : TypeId} {xs : List Value} (h : Arr w g t xs) (hg : w.grownBy w' (some r)) (hne : g ≠ r) : Arr w' g t xs :=
  (hg.block g h.lt (fun e => hne (by cases e; rfl))).trans h
theorem bs_grown {w w' : World} {B r : Nat} {A : Option Addr} {l : List UInt8} (h : Bs w B A l) (hg : w.grownBy w' (some r)) (hne : B ≤ r) (hB : B ≤ w.heap.size) : Bs w' B A l := by
  intro h0
  obtain ⟨ad, e, hlt, hc⟩ := h h0
  subst e
  exact ⟨ad, rfl, hlt, fun k hk => (World.cell?_of_block (hg.block _ (by rw [add_block]; omega) (by rw [add_block]; intro e; cases e; omega))).trans (hc k hk)⟩
theorem grownBelow {w w' : World} {g B : Nat} (h : w.grownBy w' (some g)) (hg : B ≤ g) (hB : B ≤ w.heap.size) : Below B w w' :=
  ⟨h.os, h.tape, h.output, h.size, fun k hk => h.block k (by omega) (fun e => by cases e; omega)⟩
theorem grownOf {w w' : World} {g : Nat} (h : Below w.heap.size w w') : w.grownBy w' (some g) := ⟨h.os, h.tape, h.output, h.size, fun j hj _ => h.block j hj⟩
theorem grownTrans {a b c : World} {row : Option Nat} (h : a.grownBy b row) (k : b.grownBy c row) : a.grownBy c row :=
  ⟨k.os.trans h.os, k.tape.trans h.tape, k.output.trans h.output, Nat.le_trans h.size k.size, fun i hi hne => (k.block i (Nat.lt_of_lt_of_le hi h.size) hne).trans (h.block i hi hne)⟩
theorem grownSet (w : World) (g k : Nat) (u : Value) : w.grownBy (w.setCell ⟨g, k, none⟩ u) (some g) := by
  refine ⟨rfl, rfl, rfl, by simp, fun i _ hne => ?_⟩
  exact Below.heap_setCell w ⟨g, k, none⟩ u i (fun e => hne (by rw [e]))
theorem grownRefl (w : World) (r : Option Nat) : w.grownBy w r := ⟨rfl, rfl, rfl, Nat.le_refl _, fun _ _ _ => rfl⟩
theorem grownDrewN (w : World) (n : Nat) (r : Option Nat) : w.grownBy (w.drewN n) r := ⟨rfl, rfl, rfl, Nat.le_refl _, fun _ _ _ => rfl⟩
theorem grownDrew (w : World) (r : Option Nat) : w.grownBy w.drew r := ⟨rfl, rfl, rfl, Nat.le_refl _, fun _ _ _ => rfl⟩

/-- Two variables laid, one behind the other. -/
theorem start2 {w W : World} {X Y : Array Value} {t u : TypeId} (h : (w.alloc (.cells X t)).alloc (.cells Y u) = W) : Arr W w.heap.size t X.toList ∧ Arr W (w.heap.size + 1) u Y.toList ∧ Below w.heap.size w W ∧ W.heap.size = w.heap.size + 2 := by
  subst h
  have a1 := Arr.new (w.alloc (.cells X t)) Y u
  have hsz : (w.alloc (.cells X t)).heap.size = w.heap.size + 1 := by simp
  rw [hsz] at a1
  exact ⟨(Arr.new w X t).alloc _, a1, ((Below.refl w.heap.size w).alloc (Nat.le_refl _) _).alloc (by simp) _, by simp⟩
theorem start1 {w W : World} {X : Array Value} {t : TypeId} (h : w.alloc (.cells X t) = W) : Arr W w.heap.size t X.toList ∧ Below w.heap.size w W ∧ W.heap.size = w.heap.size + 1 := by
  subst h
  exact ⟨Arr.new w X t, (Below.refl w.heap.size w).alloc (Nat.le_refl _) _, by simp⟩
theorem start3 {w W : World} {X Y Z : Array Value} {t u v : TypeId} (h : ((w.alloc (.cells X t)).alloc (.cells Y u)).alloc (.cells Z v) = W) :
    Arr W w.heap.size t X.toList ∧ Arr W (w.heap.size + 1) u Y.toList ∧ Arr W (w.heap.size + 2) v Z.toList ∧ Below w.heap.size w W ∧ W.heap.size = w.heap.size + 3 := by
  obtain ⟨W2, h2⟩ : ∃ W2, (w.alloc (.cells X t)).alloc (.cells Y u) = W2 := ⟨_, rfl⟩
  obtain ⟨a, b, c, d⟩ := start2 h2
  rw [h2] at h
  obtain ⟨e, f, g⟩ := start1 h
  rw [d] at e f g
  exact ⟨a.below f (by omega), b.below f (by omega), e, c.trans (f.mono (by omega)), g⟩

theorem belowN (B : Nat) (w : World) (n : Nat) : Below B w (w.drewN n) := ⟨rfl, rfl, rfl, Nat.le_refl _, fun _ _ => rfl⟩
/-- A variable laid and filled at once. -/
theorem filled {w W : World} {X : Array Value} {t : TypeId} {ys : List Value} (h : (w.alloc (.cells X t)).setRow w.heap.size ys.toArray = W) : Arr W w.heap.size t ys ∧ Below w.heap.size w W ∧ W.heap.size = w.heap.size + 1 := by
  subst h
  exact ⟨(Arr.new w X t).row ys, below_row ((Below.refl w.heap.size w).alloc (Nat.le_refl _) _) (Nat.le_refl _) _, by simp⟩

/-- The state behind k additions. -/
def mid (o r : List Nat) (k : Nat) : List Nat := r.take k ++ o.drop k
theorem mid_len (o r : List Nat) (k : Nat) (ho : o.length = 8) (hr : r.length = 8) (hk : k ≤ 8) : (mid o r k).length = 8 := by simp [mid]; omega
theorem mid_get (o r : List Nat) (k : Nat) (ho : o.length = 8) (hr : r.length = 8) (hk : k < 8) : (wc (mid o r k))[k]? = some (.int .u32 ((o.getD k 0 : Nat) : Int)) := by
  have h1 : (r.take k).length = k := by simp; omega
  have h2 : (mid o r k)[k]? = some (o.getD k 0) := by
    unfold mid
    rw [List.getElem?_append_right (by omega), h1, Nat.sub_self, List.getElem?_drop]
    simp [List.getD_eq_getElem?_getD, ho, hk]
  unfold wc
  rw [List.getElem?_map, h2]
  rfl
theorem mid_set (o r : List Nat) (k : Nat) (ho : o.length = 8) (hr : r.length = 8) (hk : k < 8) : (wc (mid o r k)).set k (.int .u32 ((r.getD k 0 : Nat) : Int)) = wc (mid o r (k + 1)) := by
  have h1 : (r.take k).length = k := by simp; omega
  have e : (mid o r k).set k (r.getD k 0) = mid o r (k + 1) := by
    unfold mid
    rw [List.set_append, if_neg (by omega), h1, Nat.sub_self, List.drop_eq_getElem_cons (by omega), List.set_cons_zero, List.take_succ_eq_append_getElem (by omega), List.append_assoc]
    simp [List.getD_eq_getElem?_getD, hr, hk]
  rw [← e]
  unfold wc
  rw [List.map_set]
theorem mid_end (o r : List Nat) (ho : o.length = 8) (hr : r.length = 8) : mid o r 8 = r := by
  unfold mid
  rw [List.take_of_length_le (by omega), List.drop_of_length_le (by omega), List.append_nil]
theorem zip_at (o x : List Nat) (k : Nat) (ho : o.length = 8) (hx : x.length = 8) (hk : k < 8) : (List.zipWith (fun x y => (x + y) % 4294967296) o x).getD k 0 = (o.getD k 0 + x.getD k 0) % 4294967296 := by
  simp [List.getD_eq_getElem?_getD, ho, hx, hk]
theorem not_max (e : Nat) (h : e < 4294967296) : 4294967295 ^^^ e = 4294967295 - e := by
  apply Nat.eq_of_testBit_eq
  intro i
  rw [Nat.testBit_xor]
  by_cases hi : i < 32
  · rw [not_test e i h hi, show (4294967295 : Nat) = 2 ^ 32 - 1 from rfl, Nat.testBit_two_pow_sub_one]
    simp [hi]
  · have h1 : (4294967295 : Nat).testBit i = false := Nat.testBit_lt_two_pow (Nat.lt_of_lt_of_le (by decide) (Nat.pow_le_pow_right (n := 2) (by decide) (show 32 ≤ i by omega)))
    have h2 : e.testBit i = false := Nat.testBit_lt_two_pow (Nat.lt_of_lt_of_le h (Nat.pow_le_pow_right (n := 2) (by decide) (show 32 ≤ i by omega)))
    have h3 : (4294967295 - e).testBit i = false := Nat.testBit_lt_two_pow (Nat.lt_of_lt_of_le (show 4294967295 - e < 2 ^ 32 by omega) (Nat.pow_le_pow_right (n := 2) (by decide) (show 32 ≤ i by omega)))
    rw [h1, h2, h3]
    rfl
end Go.Proofs.YtnlhcogmccladaaDoor.HashX
