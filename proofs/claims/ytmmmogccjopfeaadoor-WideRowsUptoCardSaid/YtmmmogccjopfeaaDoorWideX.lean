/-
  SHA-512's words: plain mathematics, and how they are spelt in a walk. Conditions: in each statement.
-/
import Derived.Test.YtmmmogccjopfeaaDoorWideTurn
import Derived.Test.YtmmmogccjopfeaaDoorLongsW
import Derived.Test.YtmmmogccjopfeaaDoorBigSet
import Derived.Test.YtmmmogccjopfeaaDoorPhase
import Derived.Deep.DeepCutAuto
namespace Go.Proofs.YtmmmogccjopfeaaDoor.WideX
open Go.RowKit BytesW CellsW LongsW ArrW WideM WideTurnW

theorem u64_wrap (a : Int) : IntKind.u64.wrap a = a % 18446744073709551616 := by
  have h := IntWalk.u64_in (a % 18446744073709551616) (by omega)
  rw [← h]
  simp [IntKind.wrap, IntKind.signed, IntKind.bits]
theorem words_len (l : List UInt8) : (words l).length = 16 := by simp [words]
theorem ext_len (i : Nat) (l : List UInt8) : (ext i (words l)).length = 16 + i := by
  induction i with
  | zero => simp [ext, words]
  | succ i ih => simp [ext, ih]; omega
theorem words_lt (l : List UInt8) : ∀ n ∈ words l, n < 18446744073709551616 := by
  intro n hn
  simp only [words, List.mem_map, List.mem_range] at hn
  obtain ⟨i, _, rfl⟩ := hn
  have h1 := VecM.val_lt ((l.drop (8 * i)).take 8)
  have h2 : ((l.drop (8 * i)).take 8).length ≤ 8 := by rw [List.length_take]; omega
  have h3 : 256 ^ ((l.drop (8 * i)).take 8).length ≤ 256 ^ 8 := Nat.pow_le_pow_right (by decide) h2
  omega
theorem ext_lt (i : Nat) (l : List UInt8) : ∀ n ∈ ext i (words l), n < 18446744073709551616 := by
  induction i with
  | zero => exact words_lt l
  | succ i ih =>
    intro n hn
    rw [ext, List.mem_append] at hn
    rcases hn with h | h
    · exact ih n h
    · simp at h; subst h; unfold next; exact Nat.mod_lt _ (by decide)
/-- The next word, of the four that it looks at. -/
def nw (a b x y : Nat) : Nat := (a + b + ls0 x + ls1 y) % 18446744073709551616
theorem ext_succ (l : List UInt8) (k : Nat) (h : 16 ≤ k) (h1 : k - 16 < (ext (k - 16) (words l)).length) (h2 : k - 7 < (ext (k - 16) (words l)).length) (h3 : k - 15 < (ext (k - 16) (words l)).length) (h4 : k - 2 < (ext (k - 16) (words l)).length) :
    ext (k + 1 - 16) (words l) = ext (k - 16) (words l) ++ [nw (ext (k - 16) (words l))[k - 16] (ext (k - 16) (words l))[k - 7] (ext (k - 16) (words l))[k - 15] (ext (k - 16) (words l))[k - 2]] := by
  have e : k + 1 - 16 = (k - 16) + 1 := by omega
  have hl : (ext (k - 16) (words l)).length = k := by rw [ext_len]; omega
  rw [e, ext]
  unfold next nw
  rw [hl]
  simp [List.getD_eq_getElem?_getD, h1, h2, h3, h4]


/-- The table of the cube roots. -/
def TabE (w : World) : Prop := ∀ j, j < 80 → w.cell? ⟨1, j, none⟩ = some (.int .u64 ((K.getD j 0 : Nat) : Int))
theorem TabE.below {w w' : World} (h : TabE w) (hb : Below w.heap.size w w') : TabE w' := fun j hj => (hb.cell (World.block_lt_of_cell? _ _ (h j hj))).trans (h j hj)

/-- eturn in a world that has only drawn since. -/
theorem turn_in (w : World) (n x : Nat) (m : Int) (hm : m = (n : Int)) (h1n : 1 ≤ n) (hn : n ≤ 63) (hx : x < 18446744073709551616) (q : Nat) :
    Calls Tryd.prog 23 #[.int .u64 (x : Int), .int .i64 m] (w.drewN q) fun e w'' => e = .returned (.int .u64 (rot n x : Int)) ∧ ∃ m, w'' = w.drewN m :=
  Calls.quiet_of (turn_any n x m hm h1n hn hx _)

theorem xor_lt (a b : Nat) (ha : a < 18446744073709551616) (hb : b < 18446744073709551616) : a ^^^ b < 18446744073709551616 := Nat.xor_lt_two_pow (n := 64) ha hb
theorem wrap_nat (a : Nat) : IntKind.u64.wrap (a : Int) = ((a % 18446744073709551616 : Nat) : Int) := by rw [u64_wrap]; omega
theorem wrap_add (a b : Nat) : IntKind.u64.wrap ((a : Int) + b) = (((a + b) % 18446744073709551616 : Nat) : Int) := by rw [u64_wrap]; omega
theorem wrap_div (a b : Nat) (h : a < 18446744073709551616) : IntKind.u64.wrap ((a : Int) / b) = ((a / b : Nat) : Int) := by
  have := Nat.div_le_self a b
  rw [← Int.natCast_ediv, wrap_nat, Nat.mod_eq_of_lt (by omega)]

theorem eight {r : List Nat} (h : r.length = 8) : ∃ a b c d e f g i, r = [a, b, c, d, e, f, g, i] := by
  match r, h with
  | [a, b, c, d, e, f, g, i], _ => exact ⟨a, b, c, d, e, f, g, i, rfl⟩

/-- The state behind k additions. -/
def stage (o r : List Nat) (k : Nat) : List Nat := r.take k ++ o.drop k
theorem stage_len (o r : List Nat) (k : Nat) (ho : o.length = 8) (hr : r.length = 8) (hk : k ≤ 8) : (stage o r k).length = 8 := by simp [stage]; omega
theorem stage_get (o r : List Nat) (k : Nat) (ho : o.length = 8) (hr : r.length = 8) (hk : k < 8) : (lc (stage o r k))[k]? = some (.int .u64 ((o.getD k 0 : Nat) : Int)) := by
  have h1 : (r.take k).length = k := by simp; omega
  have h2 : (stage o r k)[k]? = some (o.getD k 0) := by
    unfold stage
    rw [List.getElem?_append_right (by omega), h1, Nat.sub_self, List.getElem?_drop]
    simp [List.getD_eq_getElem?_getD, ho, hk]
  unfold lc
  rw [List.getElem?_map, h2]
  rfl
theorem stage_set (o r : List Nat) (k : Nat) (ho : o.length = 8) (hr : r.length = 8) (hk : k < 8) : (lc (stage o r k)).set k (.int .u64 ((r.getD k 0 : Nat) : Int)) = lc (stage o r (k + 1)) := by
  have h1 : (r.take k).length = k := by simp; omega
  have e : (stage o r k).set k (r.getD k 0) = stage o r (k + 1) := by
    unfold stage
    rw [List.set_append, if_neg (by omega), h1, Nat.sub_self, List.drop_eq_getElem_cons (by omega), List.set_cons_zero, List.take_succ_eq_append_getElem (by omega), List.append_assoc]
    simp [List.getD_eq_getElem?_getD, hr, hk]
  rw [← e]
  unfold lc
  rw [List.map_set]
theorem stage_end (o r : List Nat) (ho : o.length = 8) (hr : r.length = 8) : stage o r 8 = r := by
  unfold stage
  rw [List.take_of_length_le (by omega), List.drop_of_length_le (by omega), List.append_nil]
theorem zip_get (o x : List Nat) (k : Nat) (ho : o.length = 8) (hx : x.length = 8) (hk : k < 8) : (List.zipWith (fun x y => (x + y) % 18446744073709551616) o x).getD k 0 = (o.getD k 0 + x.getD k 0) % 18446744073709551616 := by
  simp [List.getD_eq_getElem?_getD, ho, hx, hk]


theorem not_test (e i : Nat) (he : e < 18446744073709551616) : (18446744073709551615 - e).testBit i = (decide (i < 64) && !e.testBit i) := by
  have h := Nat.testBit_two_pow_sub_succ (n := 64) he i
  rw [show 2 ^ 64 - (e + 1) = 18446744073709551615 - e from by omega] at h
  rw [h]
theorem high_test {g : Nat} (hg : g < 18446744073709551616) {i : Nat} (hi : ¬ i < 64) : g.testBit i = false := Nat.testBit_lt_two_pow (Nat.lt_of_lt_of_le hg (by rw [show 18446744073709551616 = 2 ^ 64 from rfl]; exact Nat.pow_le_pow_right (by decide) (by omega)))
/-- The choice, as the document's own words spell it. -/
theorem ch_eq (e f g : Nat) (he : e < 18446744073709551616) (hg : g < 18446744073709551616) : g ^^^ (e &&& (f ^^^ g)) = ch e f g := by
  apply Nat.eq_of_testBit_eq
  intro i
  unfold ch
  rw [Nat.testBit_xor, Nat.testBit_xor, Nat.testBit_and, Nat.testBit_xor, Nat.testBit_and, Nat.testBit_and, not_test e i he]
  by_cases hi : i < 64
  · simp only [hi, decide_true, Bool.true_and]
    cases e.testBit i <;> cases f.testBit i <;> cases g.testBit i <;> rfl
  · rw [high_test hg hi, high_test he hi]
    simp
theorem maj_eq (a b c : Nat) : (a &&& b) ||| (c &&& (a ||| b)) = maj a b c := by
  apply Nat.eq_of_testBit_eq
  intro i
  unfold maj
  rw [Nat.testBit_or, Nat.testBit_and, Nat.testBit_and, Nat.testBit_or, Nat.testBit_xor, Nat.testBit_xor, Nat.testBit_and, Nat.testBit_and, Nat.testBit_and]
  cases a.testBit i <;> cases b.testBit i <;> cases c.testBit i <;> rfl
theorem ch_lt (e f g : Nat) (hg : g < 18446744073709551616) (hf : f < 18446744073709551616) : ch e f g < 18446744073709551616 := by
  unfold ch
  exact Nat.xor_lt_two_pow (n := 64) (Nat.and_lt_two_pow _ hf) (Nat.and_lt_two_pow _ hg)
theorem maj_lt (a b c : Nat) (hb : b < 18446744073709551616) (hc : c < 18446744073709551616) : maj a b c < 18446744073709551616 := by
  unfold maj
  exact Nat.xor_lt_two_pow (n := 64) (Nat.xor_lt_two_pow (n := 64) (Nat.and_lt_two_pow _ hb) (Nat.and_lt_two_pow _ hc)) (Nat.and_lt_two_pow _ hc)
/-- All words below 2^64. -/
def St.small (s : St) : Prop := s.a < 18446744073709551616 ∧ s.b < 18446744073709551616 ∧ s.c < 18446744073709551616 ∧ s.d < 18446744073709551616 ∧ s.e < 18446744073709551616 ∧ s.f < 18446744073709551616 ∧ s.g < 18446744073709551616 ∧ s.h < 18446744073709551616
theorem rnd_small (k w : Nat) (s : St) (h : St.small s) : St.small (rnd k w s) := by
  obtain ⟨h1, h2, h3, h4, h5, h6, h7, h8⟩ := h
  exact ⟨Nat.mod_lt _ (by decide), h1, h2, h3, Nat.mod_lt _ (by decide), h5, h6, h7⟩
theorem rn_small (W : List Nat) (s : St) (h : St.small s) (j : Nat) : St.small (rn W s j) := by
  induction j with
  | zero => exact h
  | succ j ih => exact rnd_small _ _ _ ih
theorem words_take (b : List UInt8) (i : Nat) (h : i < 16) : (words b).take (i + 1) = (words b).take i ++ [VecM.val ((b.drop (8 * i)).take 8)] := by
  have hl : i < (words b).length := by simp [words]; exact h
  rw [List.take_succ_eq_append_getElem hl]
  simp [words]
theorem stl_get (o r : List Nat) (k : Nat) (ho : o.length = 8) (hr : r.length = 8) (hk : k < 8) (h : k < (stage o r k).length) : (stage o r k)[k] = o.getD k 0 := by
  have h2 : (stage o r k)[k]? = some (o.getD k 0) := by
    have h1 : (r.take k).length = k := by simp; omega
    unfold stage
    rw [List.getElem?_append_right (by omega), h1, Nat.sub_self, List.getElem?_drop]
    simp [List.getD_eq_getElem?_getD, ho, hk]
  rw [List.getElem?_eq_getElem h] at h2
  exact Option.some.inj h2
theorem stl_set (o r : List Nat) (k : Nat) (ho : o.length = 8) (hr : r.length = 8) (hk : k < 8) : (stage o r k).set k (r.getD k 0) = stage o r (k + 1) := by
  have h1 : (r.take k).length = k := by simp; omega
  unfold stage
  rw [List.set_append, if_neg (by omega), h1, Nat.sub_self, List.drop_eq_getElem_cons (by omega), List.set_cons_zero, List.take_succ_eq_append_getElem (by omega), List.append_assoc]
  simp [List.getD_eq_getElem?_getD, hr, hk]
theorem init7 {a b c d e f g h k : Nat} (hk : k < [a, b, c, d, e, f, g].length) (h8 : k < [a, b, c, d, e, f, g, h].length) : [a, b, c, d, e, f, g, h][k] = [a, b, c, d, e, f, g][k] :=
  List.getElem_append_left (bs := [h]) hk
theorem small_list {S : List Nat} (h8 : S.length = 8) (h : ∀ x ∈ S, x < 18446744073709551616) : St.small (ofList S) := by
  obtain ⟨x0, x1, x2, x3, x4, x5, x6, x7, rfl⟩ := eight h8
  exact ⟨h x0 (by simp), h x1 (by simp), h x2 (by simp), h x3 (by simp), h x4 (by simp), h x5 (by simp), h x6 (by simp), h x7 (by simp)⟩
end Go.Proofs.YtmmmogccjopfeaaDoor.WideX
