/-
  The document's own whole numbers ('Int'): how one lies in memory; trim. Conditions: in each statement.
-/
import Derived.Test.YtmmmogccjopfeaaDoorWordsW
import Derived.Test.YtmmmogccjopfeaaDoorArrW
import Derived.Test.YtmmmogccjopfeaaDoorBytesX
import Derived.WalkKit
import Derived.BigCall
import Derived.Lib.Hide
import Derived.Outline
import Derived.Deep.DeepMust
import Derived.RegionTactic
import Derived.ChangeAlike
import Derived.Deep.QuietTactic
import Derived.BigQuiet
import Derived.Deep.RegionHeld
namespace Go.Proofs.YtmmmogccjopfeaaDoor.BigW
open Go.RowKit BytesW CellsW WordsW ArrW

/-- What digits of 32 bits are, the least one first. -/
def dval : List Nat → Nat
  | [] => 0
  | x :: r => x + 4294967296 * dval r

/-- How many digits are left without noughts at the end, of the first n. -/
def tn (l : List Nat) : Nat → Nat
  | 0 => 0
  | n + 1 => if l.getD n 0 = 0 then tn l n else n + 1
theorem tn_le (l : List Nat) (n : Nat) : tn l n ≤ n := by
  induction n with
  | zero => exact Nat.le_refl _
  | succ n ih => unfold tn; split <;> omega
def trimL (l : List Nat) : List Nat := l.take (tn l l.length)

theorem dval_append (a b : List Nat) : dval (a ++ b) = dval a + 4294967296 ^ a.length * dval b := by
  induction a with
  | nil => simp [dval]
  | cons x r ih => rw [List.cons_append, dval, ih, dval, List.length_cons, Nat.pow_succ, Nat.mul_add, Nat.add_assoc, Nat.mul_assoc, Nat.mul_left_comm]
theorem dval_take (l : List Nat) (n : Nat) (hn : n ≤ l.length) : dval (l.take (tn l n)) = dval (l.take n) := by
  induction n with
  | zero => rfl
  | succ n ih =>
    unfold tn
    split
    · rename_i h
      rw [ih (by omega), List.take_succ_eq_append_getElem (by omega), dval_append]
      have : l[n] = 0 := by simpa [List.getD_eq_getElem?_getD, List.getElem?_eq_getElem (show n < l.length by omega)] using h
      simp [dval, this]
    · rfl
theorem dval_trim (l : List Nat) : dval (trimL l) = dval l := by
  unfold trimL
  rw [dval_take l l.length (Nat.le_refl _), List.take_length]
/-- Without noughts at the end. -/
def Tidy (l : List Nat) : Prop := l = [] ∨ l.getLast? ≠ some 0
theorem trim_tidy (l : List Nat) : Tidy (trimL l) := by
  have key : ∀ n, n ≤ l.length → tn l n = 0 ∨ l.getD (tn l n - 1) 0 ≠ 0 := by
    intro n
    induction n with
    | zero => intro _; exact .inl rfl
    | succ n ih =>
      intro hn
      unfold tn
      split
      · exact ih (by omega)
      · exact .inr (by simpa using ‹_›)
  unfold trimL Tidy
  rcases key l.length (Nat.le_refl _) with h | h
  · rw [h]; exact .inl rfl
  · right
    have hle := tn_le l l.length
    generalize tn l l.length = m at *
    cases m with
    | zero => simp at h ⊢
    | succ m =>
      have hm : m < l.length := by omega
      rw [List.take_succ_eq_append_getElem hm, List.getLast?_append]
      simp only [Nat.add_sub_cancel] at h
      simp [List.getD_eq_getElem?_getD, hm] at h ⊢
      exact h

/-- The number at block g: its sign, its digits. -/
def IntAt (w : World) (g : Nat) (neg : Bool) (d : List Nat) : Prop :=
  (∃ A c, Arr w g 35 [.bool neg, .slice A d.length c] ∧ Us w w.heap.size A d ∧ d.length ≤ c) ∧ (∀ x ∈ d, x < 4294967296) ∧ Tidy d

theorem us_apart {w : World} {g : Nat} {t : TypeId} {b : Bool} {A A' : Option Addr} {n c B : Nat} {d : List Nat} (hg : Arr w g t [.bool b, .slice A' n c]) (h : Us w B A d) (h0 : 0 < d.length) : ∃ ad, A = some ad ∧ ad.block ≠ g := by
  obtain ⟨ad, e, _, hc⟩ := h h0
  refine ⟨ad, e, fun hb => ?_⟩
  have h1 := hc 0 h0
  rw [add_zero] at h1
  obtain ⟨blk, off, spot⟩ := ad
  simp only at hb
  subst hb
  unfold World.cell? at h1
  unfold Arr at hg
  simp only [hg] at h1
  match off, h1 with
  | 0, h1 => cases spot <;> simp at h1
  | 1, h1 => cases spot <;> simp at h1
  | _ + 2, h1 => cases spot <;> simp at h1

theorem Us.other {w : World} {g k : Nat} {t : TypeId} {b : Bool} {A A' : Option Addr} {n c B : Nat} {d : List Nat} (hg : Arr w g t [.bool b, .slice A' n c]) (h : Us w B A d) (u : Value) : Us (w.setCell ⟨g, k, none⟩ u) B A d := by
  intro h0
  obtain ⟨ad, e, hne⟩ := us_apart hg h h0
  obtain ⟨ad', e', hlt, hc⟩ := h h0
  rw [e] at e'
  cases e'
  exact ⟨ad, e, hlt, fun k' hk' => by
    rw [World.cell?_setCell_far _ _ _ _ (by rw [add_block]; exact fun e => hne e.symm)]
    exact hc k' hk'⟩

theorem Us.take {w : World} {B : Nat} {A : Option Addr} {l : List Nat} (h : Us w B A l) (n : Nat) : Us w B A (l.take n) := by
  intro h0
  rw [List.length_take] at h0
  obtain ⟨ad, e, hlt, hc⟩ := h (by omega)
  refine ⟨ad, e, hlt, fun k hk => ?_⟩
  rw [List.length_take] at hk
  rw [hc k (by omega), List.getElem_take]

theorem grown_trans {a b c : World} {row : Option Nat} (h : a.grownBy b row) (k : b.grownBy c row) : a.grownBy c row :=
  ⟨k.os.trans h.os, k.tape.trans h.tape, k.output.trans h.output, Nat.le_trans h.size k.size, fun j hj hne => (k.block j (Nat.lt_of_lt_of_le hj h.size) hne).trans (h.block j hj hne)⟩
theorem grown_set (w : World) (g k : Nat) (u : Value) : w.grownBy (w.setCell ⟨g, k, none⟩ u) (some g) :=
  ⟨rfl, rfl, rfl, by simp, fun j _ hj => heap_setCell_other w ⟨g, k, none⟩ j u (fun e => hj (by simp [e]))⟩

set_option maxHeartbeats 4000000 in
set_option maxRecDepth 100000 in
theorem trim_any (g : Nat) (neg : Bool) (A : Option Addr) (l : List Nat) (c : Nat) (w : World) (ha : Arr w g 35 [.bool neg, .slice A l.length c]) (hU : Us w w.heap.size A l) (hc : l.length ≤ c) (hs : ∀ x ∈ l, x < 4294967296) (hl : l.length ≤ 35184372088832) :
    Calls Tryd.prog 19 #[.pointer (some ⟨g, 0, none⟩)] w fun e w' => e = .returned (.pointer (some ⟨g, 0, none⟩)) ∧ IntAt w' g (neg && !(trimL l).isEmpty) (trimL l) ∧ w.grownBy w' (some g) := by
  have c0 : w.cell? ⟨g, 0, none⟩ = some (.bool neg) := ha.cell 0
  have c1 : w.cell? ⟨g, 1, none⟩ = some (.slice A l.length c) := ha.cell 1
  have f0 := ha.frozen 0
  have f1 := ha.frozen 1
  go_enter Tryd.func19, Tryd.ntmps19
  go_wp2
  go_loop [3] (fun n => ∃ m : Nat, m ≤ l.length ∧ n = .int .i64 (m : Int) ∧ tn l m = tn l l.length) (fun n => (intOf n).toNat)
  case atStart => exact ⟨l.length, Nat.le_refl _, rfl, rfl⟩
  case round =>
    obtain ⟨m, hm, rfl, ht⟩ := hrel
    cases m with
    | zero =>
      have hn : trimL l = [] := by unfold trimL; rw [← ht]; rfl
      have HA := Lib.hid ((ha.set 1 (.slice A 0 c)).set 0 (.bool false))
      have HN := Lib.hid hn
      clear ht hn hU
      go_wp2
      go_ret
      rw [HN.out]
      exact ⟨rfl, ⟨⟨A, c, by simpa using HA.out, Us.nil _ _ _, Nat.zero_le _⟩, (fun x hx => by cases hx), .inl rfl⟩, grown_trans (grown_set w g 1 _) (grown_set _ g 0 _)⟩
    | succ m =>
      obtain ⟨ad, had, _, cx⟩ := hU.at_ (k := m) (by omega)
      subst had
      by_cases hx : l[m]'(by omega) = 0
      · have ht2 : tn l m = tn l l.length := by
          rw [← ht, tn, if_pos]
          simp [List.getD_eq_getElem?_getD, hx, show m < l.length by omega]
        rw [hx] at cx
        have HT := Lib.hid ht2
        clear ht ht2 hx
        go_wp2
        go_round
        case rel => exact ⟨m, by omega, by go_num, HT.out⟩
        case measure => simp [intOf]
      · have ht2 : tn l l.length = m + 1 := by
          rw [← ht, tn, if_neg]
          simp [List.getD_eq_getElem?_getD, hx, show m < l.length by omega]
        have hn : trimL l = l.take (m + 1) := by unfold trimL; rw [ht2]
        have hne : (trimL l).isEmpty = false := by rw [hn]; cases l with | nil => simp at hm | cons y r => rfl
        have hln : (l.take (m + 1)).length = m + 1 := by rw [List.length_take]; omega
        have HA := Lib.hid (ha.set 1 (.slice (some ad) (m + 1) c))
        have HU := Lib.hid (Us.other ha (Us.take hU (m + 1)) (k := 1) (.slice (some ad) (m + 1) c))
        have HN := Lib.hid hn
        have HE := Lib.hid hne
        have HL := Lib.hid hln
        have HTd := Lib.hid (trim_tidy l)
        have hmc : m + 1 ≤ c := by omega
        clear hn hne hln hU
        generalize l[m]'_ = x at *
        have hx0 : ((x : Int) == 0) = false := beq_eq_false_iff_ne.2 (by omega)
        clear ht ht2 hx
        go_wp2
        go_ret
        have h1 := HU.out
        rw [HE.out, HN.out]
        refine ⟨rfl, ⟨⟨some ad, c, ?_, ?_, by rw [HL.out]; exact hmc⟩, fun x hx => hs x (List.mem_of_mem_take hx), by rw [← HN.out]; exact HTd.out⟩, grown_set w g 1 _⟩
        · have := HA.out
          rw [HL.out]
          simpa using this
        · simpa using h1
end Go.Proofs.YtmmmogccjopfeaaDoor.BigW
