/-
  Several texts in one: BigW, BigNew, BigMul. What each holds stands at its head. Conditions: in each statement.
-/
import Derived.Test.YtfngomlknhappaaDoorKb
import Derived.Test.YtfngomlknhappaaDoorKc
import Derived.WalkKit
import Derived.BigCall
import Derived.Lib.Hide
import Derived.Outline
import Derived.Deep.DeepMust
import Derived.RegionTactic
import Derived.ChangeAlike
import Derived.Deep.QuietTactic
import Derived.BigQuiet
import Derived.Deep.RegionHeld
import Derived.Laws.OwnMore
import Derived.StillTailTactics
import Derived.Deep.DeepCutAuto

/-
  The document's own whole numbers ('Int'): how one lies in memory; trim. Conditions: in each statement.
-/
namespace Go.Proofs.YtfngomlknhappaaDoor.BigW
open Go.RowKit BytesW CellsW WordsW ArrW

/-- What digits of 32 bits are, the least one first. -/
def dval : List Nat → Nat
  | [] => 0
  | x :: r => x + 4294967296 * dval r

/-- How many digits are left without noughts at the end, of the first n. -/
def tn (l : List Nat) : Nat → Nat
  | 0 => 0
  | n + 1 => if l.getD n 0 = 0 then tn l n else n + 1
theorem tn_le (l : List Nat) (n : Nat) : tn l n ≤ n := by
  induction n with
  | zero => exact Nat.le_refl _
  | succ n ih => unfold tn; split <;> omega
def trimL (l : List Nat) : List Nat := l.take (tn l l.length)

theorem dval_append (a b : List Nat) : dval (a ++ b) = dval a + 4294967296 ^ a.length * dval b := by
  induction a with
  | nil => simp [dval]
  | cons x r ih => rw [List.cons_append, dval, ih, dval, List.length_cons, Nat.pow_succ, Nat.mul_add, Nat.add_assoc, Nat.mul_assoc, Nat.mul_left_comm]
theorem dval_take (l : List Nat) (n : Nat) (hn : n ≤ l.length) : dval (l.take (tn l n)) = dval (l.take n) := by
  induction n with
  | zero => rfl
  | succ n ih =>
    unfold tn
    split
    · rename_i h
      rw [ih (by omega), List.take_succ_eq_append_getElem (by omega), dval_append]
      have : l[n] = 0 := by simpa [List.getD_eq_getElem?_getD, List.getElem?_eq_getElem (show n < l.length by omega)] using h
      simp [dval, this]
    · rfl
theorem dval_trim (l : List Nat) : dval (trimL l) = dval l := by
  unfold trimL
  rw [dval_take l l.length (Nat.le_refl _), List.take_length]
/-- Without noughts at the end. -/
def Tidy (l : List Nat) : Prop := l = [] ∨ l.getLast? ≠ some 0
theorem trim_tidy (l : List Nat) : Tidy (trimL l) := by
  have key : ∀ n, n ≤ l.length → tn l n = 0 ∨ l.getD (tn l n - 1) 0 ≠ 0 := by
    intro n
    induction n with
    | zero => intro _; exact .inl rfl
    | succ n ih =>
      intro hn
      unfold tn
      split
      · exact ih (by omega)
      · exact .inr (by simpa using ‹_›)
  unfold trimL Tidy
  rcases key l.length (Nat.le_refl _) with h | h
  · rw [h]; exact .inl rfl
  · right
    have hle := tn_le l l.length
    generalize tn l l.length = m at *
    cases m with
    | zero => simp at h ⊢
    | succ m =>
      have hm : m < l.length := by omega
      rw [List.take_succ_eq_append_getElem hm, List.getLast?_append]
      simp only [Nat.add_sub_cancel] at h
      simp [List.getD_eq_getElem?_getD, hm] at h ⊢
      exact h

/-- The number at block g: its sign, its digits. -/
def IntAt (w : World) (g : Nat) (neg : Bool) (d : List Nat) : Prop :=
  (∃ A c, Arr w g 34 [.bool neg, .slice A d.length c] ∧ Us w w.heap.size A d ∧ d.length ≤ c) ∧ (∀ x ∈ d, x < 4294967296) ∧ Tidy d

theorem us_apart {w : World} {g : Nat} {t : TypeId} {b : Bool} {A A' : Option Addr} {n c B : Nat} {d : List Nat} (hg : Arr w g t [.bool b, .slice A' n c]) (h : Us w B A d) (h0 : 0 < d.length) : ∃ ad, A = some ad ∧ ad.block ≠ g := by
  obtain ⟨ad, e, _, hc⟩ := h h0
  refine ⟨ad, e, fun hb => ?_⟩
  have h1 := hc 0 h0
  rw [add_zero] at h1
  obtain ⟨blk, off, spot⟩ := ad
  simp only at hb
  subst hb
  unfold World.cell? at h1
  unfold Arr at hg
  simp only [hg] at h1
  match off, h1 with
  | 0, h1 => cases spot <;> simp at h1
  | 1, h1 => cases spot <;> simp at h1
  | _ + 2, h1 => cases spot <;> simp at h1

theorem Us.other {w : World} {g k : Nat} {t : TypeId} {b : Bool} {A A' : Option Addr} {n c B : Nat} {d : List Nat} (hg : Arr w g t [.bool b, .slice A' n c]) (h : Us w B A d) (u : Value) : Us (w.setCell ⟨g, k, none⟩ u) B A d := by
  intro h0
  obtain ⟨ad, e, hne⟩ := us_apart hg h h0
  obtain ⟨ad', e', hlt, hc⟩ := h h0
  rw [e] at e'
  cases e'
  exact ⟨ad, e, hlt, fun k' hk' => by
    rw [World.cell?_setCell_far _ _ _ _ (by rw [add_block]; exact fun e => hne e.symm)]
    exact hc k' hk'⟩

theorem Us.take {w : World} {B : Nat} {A : Option Addr} {l : List Nat} (h : Us w B A l) (n : Nat) : Us w B A (l.take n) := by
  intro h0
  rw [List.length_take] at h0
  obtain ⟨ad, e, hlt, hc⟩ := h (by omega)
  refine ⟨ad, e, hlt, fun k hk => ?_⟩
  rw [List.length_take] at hk
  rw [hc k (by omega), List.getElem_take]

theorem grown_trans {a b c : World} {row : Option Nat} (h : a.grownBy b row) (k : b.grownBy c row) : a.grownBy c row :=
  ⟨k.os.trans h.os, k.tape.trans h.tape, k.output.trans h.output, Nat.le_trans h.size k.size, fun j hj hne => (k.block j (Nat.lt_of_lt_of_le hj h.size) hne).trans (h.block j hj hne)⟩
theorem grown_set (w : World) (g k : Nat) (u : Value) : w.grownBy (w.setCell ⟨g, k, none⟩ u) (some g) :=
  ⟨rfl, rfl, rfl, by simp, fun j _ hj => heap_setCell_other w ⟨g, k, none⟩ j u (fun e => hj (by simp [e]))⟩

set_option maxHeartbeats 4000000 in
set_option maxRecDepth 100000 in
theorem trim_any (g : Nat) (neg : Bool) (A : Option Addr) (l : List Nat) (c : Nat) (w : World) (ha : Arr w g 34 [.bool neg, .slice A l.length c]) (hU : Us w w.heap.size A l) (hc : l.length ≤ c) (hs : ∀ x ∈ l, x < 4294967296) (hl : l.length ≤ 35184372088832) :
    Calls Tryd.prog 42 #[.pointer (some ⟨g, 0, none⟩)] w fun e w' => e = .returned (.pointer (some ⟨g, 0, none⟩)) ∧ IntAt w' g (neg && !(trimL l).isEmpty) (trimL l) ∧ w.grownBy w' (some g) := by
  have c0 : w.cell? ⟨g, 0, none⟩ = some (.bool neg) := ha.cell 0
  have c1 : w.cell? ⟨g, 1, none⟩ = some (.slice A l.length c) := ha.cell 1
  have f0 := ha.frozen 0
  have f1 := ha.frozen 1
  go_enter Tryd.func42, Tryd.ntmps42
  go_wp2
  go_loop [3] (fun n => ∃ m : Nat, m ≤ l.length ∧ n = .int .i64 (m : Int) ∧ tn l m = tn l l.length) (fun n => (intOf n).toNat)
  case atStart => exact ⟨l.length, Nat.le_refl _, rfl, rfl⟩
  case round =>
    obtain ⟨m, hm, rfl, ht⟩ := hrel
    cases m with
    | zero =>
      have hn : trimL l = [] := by unfold trimL; rw [← ht]; rfl
      have HA := Lib.hid ((ha.set 1 (.slice A 0 c)).set 0 (.bool false))
      have HN := Lib.hid hn
      clear ht hn hU
      go_wp2
      go_ret
      rw [HN.out]
      exact ⟨rfl, ⟨⟨A, c, by simpa using HA.out, Us.nil _ _ _, Nat.zero_le _⟩, (fun x hx => by cases hx), .inl rfl⟩, grown_trans (grown_set w g 1 _) (grown_set _ g 0 _)⟩
    | succ m =>
      obtain ⟨ad, had, _, cx⟩ := hU.at_ (k := m) (by omega)
      subst had
      by_cases hx : l[m]'(by omega) = 0
      · have ht2 : tn l m = tn l l.length := by
          rw [← ht, tn, if_pos]
          simp [List.getD_eq_getElem?_getD, hx, show m < l.length by omega]
        rw [hx] at cx
        have HT := Lib.hid ht2
        clear ht ht2 hx
        go_wp2
        go_round
        case rel => exact ⟨m, by omega, by go_num, HT.out⟩
        case measure => simp [intOf]
      · have ht2 : tn l l.length = m + 1 := by
          rw [← ht, tn, if_neg]
          simp [List.getD_eq_getElem?_getD, hx, show m < l.length by omega]
        have hn : trimL l = l.take (m + 1) := by unfold trimL; rw [ht2]
        have hne : (trimL l).isEmpty = false := by rw [hn]; cases l with | nil => simp at hm | cons y r => rfl
        have hln : (l.take (m + 1)).length = m + 1 := by rw [List.length_take]; omega
        have HA := Lib.hid (ha.set 1 (.slice (some ad) (m + 1) c))
        have HU := Lib.hid (Us.other ha (Us.take hU (m + 1)) (k := 1) (.slice (some ad) (m + 1) c))
        have HN := Lib.hid hn
        have HE := Lib.hid hne
        have HL := Lib.hid hln
        have HTd := Lib.hid (trim_tidy l)
        have hmc : m + 1 ≤ c := by omega
        clear hn hne hln hU
        generalize l[m]'_ = x at *
        have hx0 : ((x : Int) == 0) = false := beq_eq_false_iff_ne.2 (by omega)
        clear ht ht2 hx
        go_wp2
        go_ret
        have h1 := HU.out
        rw [HE.out, HN.out]
        refine ⟨rfl, ⟨⟨some ad, c, ?_, ?_, by rw [HL.out]; exact hmc⟩, fun x hx => hs x (List.mem_of_mem_take hx), by rw [← HN.out]; exact HTd.out⟩, grown_set w g 1 _⟩
        · have := HA.out
          rw [HL.out]
          simpa using this
        · simpa using h1
end Go.Proofs.YtfngomlknhappaaDoor.BigW

/-
  The document's own whole numbers: SetUint64, NewInt of a number that is not below 0. Conditions: in each statement.
-/
namespace Go.Proofs.YtfngomlknhappaaDoor.BigNewW
open Go.RowKit BytesW CellsW WordsW ArrW BigW

/-- The digits of a number below 2^64. -/
def dg (n : Nat) : List Nat := trimL [n % 4294967296, n / 4294967296]
theorem dval_dg (n : Nat) : dval (dg n) = n := by
  unfold dg
  rw [dval_trim]
  simp only [dval]
  omega

theorem us_new (w : World) (cs : List Nat) (t : TypeId) (B : Nat) (hB : w.heap.size < B) : Us (w.alloc (.cells (wc cs).toArray t)) B (some ⟨w.heap.size, 0, none⟩) cs := by
  intro _
  refine ⟨_, rfl, hB, fun k hk => ?_⟩
  have e : (⟨w.heap.size, 0, none⟩ : Addr).add k = ⟨w.heap.size, k, none⟩ := by unfold Addr.add; split <;> simp_all
  rw [e, (Arr.new w (wc cs).toArray t).cell k]
  simp [wc, List.getElem?_eq_getElem hk]

set_option maxHeartbeats 4000000 in
set_option maxRecDepth 100000 in
theorem setu_any (g n : Nat) (b : Bool) (A0 : Option Addr) (n0 c0 : Nat) (w : World) (hn : n < 18446744073709551616) (ha : Arr w g 34 [.bool b, .slice A0 n0 c0]) :
    Calls Tryd.prog 63 #[.pointer (some ⟨g, 0, none⟩), .int .u64 (n : Int)] w fun e w' => e = .returned (.pointer (some ⟨g, 0, none⟩)) ∧ IntAt w' g false (dg n) ∧ w.grownBy w' (some g) := by
  have k0 : w.cell? ⟨g, 0, none⟩ = some (.bool b) := ha.cell 0
  have k1 : w.cell? ⟨g, 1, none⟩ = some (.slice A0 n0 c0) := ha.cell 1
  have f0 := ha.frozen 0
  have f1 := ha.frozen 1
  have hlt := ha.lt
  obtain ⟨lo, hlo, e1⟩ : ∃ lo, lo = n % 4294967296 ∧ (n : Int) % 4294967296 = (lo : Int) := ⟨_, rfl, by omega⟩
  obtain ⟨hi, hhi, e2⟩ : ∃ hi, hi = n / 4294967296 ∧ (n : Int) / 4294967296 = (hi : Int) := ⟨_, rfl, by omega⟩
  have llo : lo < 4294967296 := by omega
  have lhi : hi < 4294967296 := by omega
  have HD : Hid (dg n = trimL [lo, hi]) := Lib.hid (by unfold dg; rw [hlo, hhi])
  have ha2 := ((ha.set 0 (.bool false)).set 1 (.slice (some ⟨w.heap.size, 0, none⟩) 2 2)).alloc (.cells (wc [lo, hi]).toArray 57)
  have hU := us_new ((w.setCell ⟨g, 0, none⟩ (.bool false)).setCell ⟨g, 1, none⟩ (.slice (some ⟨w.heap.size, 0, none⟩) 2 2)) [lo, hi] 57 (w.heap.size + 1) (by simp)
  have hsz : (((w.setCell ⟨g, 0, none⟩ (.bool false)).setCell ⟨g, 1, none⟩ (.slice (some ⟨w.heap.size, 0, none⟩) 2 2)).alloc (.cells (wc [lo, hi]).toArray 57)).heap.size = w.heap.size + 1 := by simp
  have ew : (wc [lo, hi]).toArray = #[.int .u32 (lo : Int), .int .u32 (hi : Int)] := rfl
  have es : ((w.setCell ⟨g, 0, none⟩ (.bool false)).setCell ⟨g, 1, none⟩ (.slice (some ⟨w.heap.size, 0, none⟩) 2 2)).heap.size = w.heap.size := by simp
  rw [es] at hU
  have hG : w.grownBy (((w.setCell ⟨g, 0, none⟩ (.bool false)).setCell ⟨g, 1, none⟩ (.slice (some ⟨w.heap.size, 0, none⟩) 2 2)).alloc (.cells (wc [lo, hi]).toArray 57)) (some g) :=
    grown_trans (grown_trans (grown_set w g 0 _) (grown_set _ g 1 _)) (World.grownBy_alloc _ _ _)
  have ht := trim_any g false (some ⟨w.heap.size, 0, none⟩) [lo, hi] 2 _ (by simpa using ha2) (by rw [hsz]; exact hU) (by simp) (by intro x hx; simp at hx; omega) (by simp)
  rw [ew] at ht hG
  simp only [Bool.false_and] at ht
  have HTr := Lib.hid ht
  have HG := Lib.hid hG
  clear ht hU ha2 hsz ew es hlo hhi ha hG
  go_enter Tryd.func63, Tryd.ntmps63
  go_wp2_with fail
  refine HTr.out.mono ?_
  clear HTr
  rintro e w' ⟨rfl, hI, hg⟩
  rw [← HD.out] at hI
  go_wp2
  go_ret
  exact ⟨rfl, hI, grown_trans HG.out hg⟩

set_option maxHeartbeats 1000000 in
set_option maxRecDepth 100000 in
theorem seti_any (g n : Nat) (b : Bool) (A0 : Option Addr) (n0 c0 : Nat) (w : World) (hn : n < 9223372036854775808) (ha : Arr w g 34 [.bool b, .slice A0 n0 c0]) :
    Calls Tryd.prog 54 #[.pointer (some ⟨g, 0, none⟩), .int .i64 (n : Int)] w fun e w' => e = .returned (.pointer (some ⟨g, 0, none⟩)) ∧ IntAt w' g false (dg n) ∧ w.grownBy w' (some g) := by
  have HS := Lib.hid (setu_any g n b A0 n0 c0 w (by omega) ha)
  have e1 : IntKind.u64.wrap (n : Int) = (n : Int) := IntWalk.u64_in _ (by omega)
  have d1 : decide ((n : Int) < 0) = false := decide_eq_false (by omega)
  clear ha
  go_enter Tryd.func54, Tryd.ntmps54
  go_wp2_with fail
  refine HS.out.mono ?_
  clear HS
  rintro e w' ⟨rfl, hI, hg⟩
  go_wp2
  go_ret
  exact ⟨rfl, hI, hg⟩

/-- A fresh number. -/
def zeroObj : Obj := .cells #[.bool false, .slice none 0 0] 34
theorem zero_arr (w : World) : Arr (w.alloc zeroObj) w.heap.size 34 [.bool false, .slice none 0 0] := Arr.new w _ _
theorem below_of_grown {B g : Nat} {w w' : World} (h : w.grownBy w' (some g)) (hg : B ≤ g) (hB : B ≤ w.heap.size) : Below B w w' :=
  (Below.refl B w).grown h hB fun k hk => by cases hk; exact hg

set_option maxHeartbeats 1000000 in
set_option maxRecDepth 100000 in
theorem newint_any (n : Nat) (m : Int) (hm : m = (n : Int)) (w : World) (hn : n < 9223372036854775808) :
    Calls Tryd.prog 35 #[.int .i64 m] w fun e w' => e = .returned (.pointer (some ⟨w.heap.size, 0, none⟩)) ∧ IntAt w' w.heap.size false (dg n) ∧ Below w.heap.size w w' := by
  subst hm
  have hs := seti_any w.heap.size n false none 0 0 (w.alloc zeroObj) hn (zero_arr w)
  unfold zeroObj at hs
  have HS := Lib.hid hs
  have hsz : (w.alloc (.cells #[.bool false, .slice none 0 0] 34)).heap.size = w.heap.size + 1 := by simp
  have HZ := Lib.hid hsz
  clear hs hsz
  go_enter Tryd.func35, Tryd.ntmps35
  go_wp2_with fail
  refine HS.out.mono ?_
  clear HS
  rintro e w' ⟨rfl, hI, hg⟩
  have hb : Below w.heap.size w w' := ((Below.refl _ w).alloc (Nat.le_refl _) _).trans (below_of_grown hg (Nat.le_refl _) (by rw [HZ.out]; omega))
  go_wp2
  go_ret
  exact ⟨rfl, hI, hb⟩
end Go.Proofs.YtfngomlknhappaaDoor.BigNewW

/-
  The document's own whole numbers: Mul. Conditions: in each statement.
-/
namespace Go.Proofs.YtfngomlknhappaaDoor.BigMulW
open Go.RowKit BytesW CellsW WordsW ArrW BigW BigNewW

/-- The number, signed. -/
def sgn (neg : Bool) (n : Nat) : Int := if neg then -(n : Int) else n
/-- The number at block g. -/
def IntV (w : World) (g : Nat) (z : Int) : Prop := ∃ neg d, IntAt w g neg d ∧ z = sgn neg (dval d) ∧ (neg = true → d ≠ [])

theorem sgn_mul {D : List Nat} {X Y : Nat} {a b : Bool} (h : dval D = X * Y) : sgn a X * sgn b Y = sgn (!(a == b) && !D.isEmpty) (dval D) := by
  have h' : ((dval D : Nat) : Int) = (X : Int) * (Y : Int) := by rw [h]; push_cast; rfl
  cases D with
  | nil =>
    have h0 : (X : Int) * (Y : Int) = 0 := by rw [← h']; rfl
    cases a <;> cases b <;> simp [sgn, dval, Int.neg_mul, Int.mul_neg, h0]
  | cons x r => cases a <;> cases b <;> simp [sgn, h', Int.neg_mul, Int.mul_neg]

theorem dval_set (L : List Nat) (k v : Nat) (h : k < L.length) : dval (L.set k v) + L[k] * 4294967296 ^ k = dval L + v * 4294967296 ^ k := by
  induction L generalizing k with
  | nil => simp at h
  | cons x r ih =>
    cases k with
    | zero => simp [dval]; omega
    | succ k =>
      have := ih k (by simpa using h)
      have hk : k < r.length := by simpa using h
      simp only [List.set_cons_succ, List.getElem_cons_succ, dval, Nat.pow_succ]
      rw [← Nat.mul_assoc, ← Nat.mul_assoc]
      generalize dval (r.set k v) = p at *
      generalize r[k]'hk * 4294967296 ^ k = q at *
      generalize v * 4294967296 ^ k = s at *
      omega

/-- One step of a row: what the digits are, with what is carried. -/
theorem step_val (L : List Nat) (k c s D : Nat) (h : k < L.length) (hs : s = c + D + L[k]) : dval (L.set k (s % 4294967296)) + s / 4294967296 * 4294967296 ^ (k + 1) = dval L + c * 4294967296 ^ k + D * 4294967296 ^ k := by
  have h1 := dval_set L k (s % 4294967296) h
  have h2 : s / 4294967296 * 4294967296 ^ (k + 1) + s % 4294967296 * 4294967296 ^ k = s * 4294967296 ^ k := by
    rw [Nat.pow_succ, ← Nat.mul_assoc, Nat.mul_right_comm, ← Nat.add_mul]
    congr 1
    omega
  have h3 : s * 4294967296 ^ k = c * 4294967296 ^ k + D * 4294967296 ^ k + L[k] * 4294967296 ^ k := by rw [hs, Nat.add_mul, Nat.add_mul]
  omega

theorem mul_small (a y o c : Nat) (ha : a < 4294967296) (hy : y < 4294967296) (ho : o < 4294967296) (hc : c < 4294967296) : a * y + o + c < 18446744073709551616 := by
  have : a * y ≤ 4294967295 * 4294967295 := Nat.mul_le_mul (by omega) (by omega)
  omega

theorem small_set (L : List Nat) (k v : Nat) (h : ∀ x ∈ L, x < 4294967296) (hv : v < 4294967296) : ∀ x ∈ L.set k v, x < 4294967296 := by
  intro x hx
  rcases List.mem_or_eq_of_mem_set hx with h1 | h1
  · exact h x h1
  · rw [h1]; exact hv
theorem wc_set (L : List Nat) (k v : Nat) : (wc L).set k (.int .u32 (v : Int)) = wc (L.set k v) := by simp [wc, List.map_set]
theorem wc_at (L : List Nat) (k : Nat) (h : k < L.length) : (wc L)[k]? = some (.int .u32 ((L[k] : Nat) : Int)) := by simp [wc, List.getElem?_map, List.getElem?_eq_getElem h]
theorem dval_take_succ (l : List Nat) (j : Nat) (h : j < l.length) : dval (l.take (j + 1)) = dval (l.take j) + 4294967296 ^ j * l[j] := by
  rw [List.take_succ_eq_append_getElem h, dval_append, List.length_take, Nat.min_eq_left (by omega)]
  simp [dval]

theorem getD_set_ne (L : List Nat) (k m v : Nat) (h : k ≠ m) : (L.set k v).getD m 0 = L.getD m 0 := by simp [List.getD_eq_getElem?_getD, List.getElem?_set_ne h]
theorem mul_step {p q l c a y t t' i j e : Nat} (h : p + c * 4294967296 ^ (i + j) = l + a * t * 4294967296 ^ i) (h1 : q + e * 4294967296 ^ (i + j + 1) = p + c * 4294967296 ^ (i + j) + a * y * 4294967296 ^ (i + j)) (h2 : t' = t + 4294967296 ^ j * y) :
    q + e * 4294967296 ^ (i + (j + 1)) = l + a * t' * 4294967296 ^ i := by
  rw [← Nat.add_assoc, h1, h, h2, Nat.mul_add, Nat.add_mul, Nat.add_assoc]
  congr 2
  rw [Nat.pow_add, Nat.mul_comm (4294967296 ^ i), ← Nat.mul_assoc, ← Nat.mul_assoc, Nat.mul_assoc a y, Nat.mul_comm y, ← Nat.mul_assoc a]
theorem mul_row {p q l c a T t t' i n : Nat} (h : p + c * 4294967296 ^ (i + n) = l + a * T * 4294967296 ^ i) (h1 : q + 0 * 4294967296 ^ (i + n) = p + c * 4294967296 ^ (i + n)) (h2 : l = t * T) (h3 : t' = t + 4294967296 ^ i * a) : q = t' * T := by
  rw [Nat.zero_mul, Nat.add_zero] at h1
  rw [h1, h, h2, h3, Nat.add_mul]
  congr 1
  rw [Nat.mul_comm (4294967296 ^ i), Nat.mul_right_comm]

theorem us_of_arr {w : World} {g : Nat} {L : List Nat} (h : Arr w g 57 (wc L)) : Us w w.heap.size (some ⟨g, 0, none⟩) L := fun _ => ⟨_, rfl, h.lt, fun k hk => by
  have := h.cell k
  rw [wc_at L k hk] at this
  rw [show (⟨g, 0, none⟩ : Addr).add k = ⟨g, k, none⟩ by by_cases h0 : k = 0 <;> simp [Addr.add, h0]]
  exact this⟩
theorem grown_of_below {w w' : World} {g : Nat} (h : Below w.heap.size w w') : w.grownBy w' (some g) := ⟨h.os, h.tape, h.output, h.size, fun j hj _ => h.block j hj⟩
/-- make([]uint32, n). -/
theorem makeU (c : Nat) (hc : c ≤ 35184372088832) (u : World) : (Instr.makeSlice 32 (.int .i64 (c : Int)) (.int .i64 (c : Int))).run Tryd.prog u =
    .ok (.slice (some ⟨u.heap.size, 0, none⟩) c c) (u.alloc (.cells (madeCells #[.int .u32 0] c) 57)) := by
  obtain ⟨i0, hi, hz0, hz1, hz2⟩ := info_parts infoWord
  have h := run_make (P := Tryd.prog) u 32 57 i0 (.int .u32 0) Tryd.underlying32 hi hz0 .i64 .i64 (c : Int) (c : Int) (by omega) (by omega) (by rw [hz2]; omega) (by omega)
  simpa [hz1, Value.cells] using h
theorem made_arr (c : Nat) (u : World) : Arr (u.alloc (.cells (madeCells #[.int .u32 0] c) 57)) u.heap.size 57 (wc (List.replicate c 0)) := by
  have h := Arr.new u (madeCells #[.int .u32 0] c) 57
  rw [toList_madeCells_one] at h
  have e : wc (List.replicate c 0) = List.replicate c (.int .u32 0) := by simp [wc]
  rw [e]
  exact h

set_option maxHeartbeats 4000000 in
set_option maxRecDepth 100000 in
theorem mul_any (gz gx gy : Nat) (bz : Bool) (Az : Option Addr) (nz cz : Nat) (x y : Int) (w : World) (hz : Arr w gz 34 [.bool bz, .slice Az nz cz]) (hx : IntV w gx x) (hy : IntV w gy y)
    (hB : ∀ neg d, IntAt w gx neg d → d.length ≤ 1048576) (hB2 : ∀ neg d, IntAt w gy neg d → d.length ≤ 1048576) :
    Calls Tryd.prog 18 #[.pointer (some ⟨gz, 0, none⟩), .pointer (some ⟨gx, 0, none⟩), .pointer (some ⟨gy, 0, none⟩)] w fun e w' => e = .returned (.pointer (some ⟨gz, 0, none⟩)) ∧ IntV w' gz (x * y) ∧ w.grownBy w' (some gz) := by
  obtain ⟨nx, dx, hix, rfl, _⟩ := hx
  obtain ⟨ny, dy, hiy, rfl, _⟩ := hy
  have lx := hB _ _ hix
  have ly := hB2 _ _ hiy
  obtain ⟨⟨Ax, cx, ax, ux, hcx⟩, sx, _⟩ := hix
  obtain ⟨⟨Ay, cy, ay, uy, hcy⟩, sy, _⟩ := hiy
  obtain ⟨N, hN⟩ : ∃ N, dx.length + dy.length = N := ⟨_, rfl⟩
  have hmk := makeU N (by omega)
  have HN := Lib.hid hN
  have kx1 : w.cell? ⟨gx, 1, none⟩ = some (.slice Ax dx.length cx) := ax.cell 1
  have ky1 : w.cell? ⟨gy, 1, none⟩ = some (.slice Ay dy.length cy) := ay.cell 1
  go_enter Tryd.func18, Tryd.ntmps18
  go_wp2
  have esum : IntKind.i64.wrap ((dx.length : Int) + (dy.length : Int)) = (N : Int) := by rw [IntWalk.i64_in _ (by omega)]; omega
  clear hN
  go_still_tail 11, (by kernel_rfl)
  change wpList _ _ _ _ _ w.drew
  clear esum
  have ar := made_arr N w.drew
  have ax1 := (ax.alloc (.cells (madeCells #[.int .u32 0] N) 57)).drew
  have ay1 := (ay.alloc (.cells (madeCells #[.int .u32 0] N) 57)).drew
  have az1 := (hz.alloc (.cells (madeCells #[.int .u32 0] N) 57)).drew
  have hb1 : Below w.heap.size w (w.alloc (.cells (madeCells #[.int .u32 0] N) 57)).drew := ((Below.refl w.heap.size w).alloc (Nat.le_refl _) _).drew
  have ar : Arr (w.alloc (.cells (madeCells #[.int .u32 0] N) 57)).drew w.heap.size 57 (wc (List.replicate N 0)) := (made_arr N w).drew
  have hgz := hz.lt
  have hgx := ax.lt
  have hgy := ay.lt
  have Hmk := Lib.hid (hmk w.drew)
  clear hmk kx1 ky1 ax ay hz
  have hmk := Hmk.out
  go_upto_region 2 with (fail)
  clear hmk
  obtain ⟨W1, hW1⟩ : ∃ W1, (w.alloc (.cells (madeCells #[.int .u32 0] N) 57)).drew = W1 := ⟨_, rfl⟩
  rw [hW1] at ax1 ay1 az1 hb1 ar ⊢
  clear hW1 Hmk
  have kx1 : W1.cell? ⟨gx, 1, none⟩ = some (.slice Ax dx.length cx) := ax1.cell 1
  go_wp2
  go_loopw [30] (fun vi wr => ∃ (i : Nat) (L : List Nat), i ≤ dx.length ∧ vi = .int .i64 (i : Int) ∧ Arr wr w.heap.size 57 (wc L) ∧ L.length = N ∧ (∀ x ∈ L, x < 4294967296) ∧ dval L = dval (dx.take i) * dval dy ∧ (∀ k, i + dy.length ≤ k → L.getD k 0 = 0) ∧ Below w.heap.size W1 wr) (fun vi _ => dx.length - (intOf vi).toNat)
  case atStart => exact ⟨0, _, Nat.zero_le _, rfl, ar, by simp, by intro x hx; simp at hx; omega, by
    have : ∀ n, dval (List.replicate n 0) = 0 := by
      intro n
      induction n with
      | zero => rfl
      | succ n ih => rw [List.replicate_succ, dval, ih]
    rw [this]; simp [dval], by intro k _; simp only [List.getD_eq_getElem?_getD, List.getElem?_replicate]; split <;> rfl, Below.refl _ _⟩
  case round =>
    clear ar kx1
    obtain ⟨i, L, hi, rfl, ar, hLl, hLs, hLv, hLz, hb⟩ := hrel
    have HLs := Lib.hid hLs
    have HLv := Lib.hid hLv
    have HLz := Lib.hid hLz
    have HLl := Lib.hid hLl
    clear hLs hLv hLz hLl
    have hbw := hb1.trans hb
    by_cases hlt : i < dx.length
    · obtain ⟨ad, rfl, _, cxi⟩ := (ux.below hbw).at_ hlt
      have ky1 : wr.cell? ⟨gy, 1, none⟩ = some (.slice Ay dy.length cy) := (ay1.below hb hgy).cell 1
      have la := sx _ (List.getElem_mem hlt)
      have HD := Lib.hid (dval_take_succ dx i hlt)
      generalize dx[i]'hlt = a at *
      go_wp2
      clear ky1
      go_loopw [10, 40] (fun vc vj wr2 => ∃ (j c : Nat) (L' : List Nat), j ≤ dy.length ∧ vj = .int .i64 (j : Int) ∧ vc = .int .u64 (c : Int) ∧ c < 4294967296 ∧ Arr wr2 w.heap.size 57 (wc L') ∧ L'.length = N ∧ (∀ x ∈ L', x < 4294967296) ∧ dval L' + c * 4294967296 ^ (i + j) = dval L + a * dval (dy.take j) * 4294967296 ^ i ∧ (∀ k, i + j ≤ k → L'.getD k 0 = L.getD k 0) ∧ Below w.heap.size W1 wr2) (fun _ vj _ => dy.length - (intOf vj).toNat)
      case atStart => exact ⟨0, 0, L, Nat.zero_le _, rfl, rfl, by omega, ar, HLl.out, HLs.out, by simp [dval], fun _ _ => rfl, hb⟩
      case round =>
        clear ar hb hbw cxi
        obtain ⟨j, c, L', hj, rfl, rfl, hc, ar, hl', hs', hv', hz', hb⟩ := hrel
        have Hv := Lib.hid hv'
        have Hz := Lib.hid hz'
        have Hs := Lib.hid hs'
        have Hl := Lib.hid hl'
        have hN := HN.out
        have hbw := hb1.trans hb
        by_cases hjl : j < dy.length
        · have hk : i + j < L'.length := by omega
          obtain ⟨ad2, had2, _, cyj⟩ := (uy.below hbw).at_ hjl
          subst had2
          have ly2 := sy _ (List.getElem_mem hjl)
          have co := ar.cell (i + j)
          rw [wc_at L' (i + j) hk] at co
          have fo := ar.frozen (i + j)
          have lo := hs' _ (List.getElem_mem hk)
          have HD2 := Lib.hid (dval_take_succ dy j hjl)
          have HSV := Lib.hid (fun s D hs => step_val L' (i + j) c s D hk hs)
          generalize dy[j]'hjl = y at *
          generalize L'[i + j]'hk = o at *
          have hms := mul_small a y o c la ly2 lo hc
          have hkN : i + j < N := by omega
          clear hl' hs' hv' hz'
          obtain ⟨S, hS⟩ : ∃ S, c + (a * y + o) = S := ⟨_, rfl⟩
          have HSe := Lib.hid hS
          have hS1 : (c : Int) + ((a : Int) * (y : Int) + (o : Int)) = (S : Int) := by rw [← hS]; push_cast; rfl
          have hSl : S < 18446744073709551616 := by omega
          clear hS
          go_wp2
          go_roundw
          case rel =>
            have h1 := HSV.out S (a * y) (by have := HSe.out; omega)
            refine ⟨j + 1, S / 4294967296, L'.set (i + j) (S % 4294967296), by omega, by go_num, by go_num, by omega, ?_, ?_, ?_, ?_, ?_, hb.setCell (Nat.le_refl _) _⟩
            · have := ar.set (i + j) (.int .u32 ((S % 4294967296 : Nat) : Int))
              rw [wc_set] at this
              simpa using this
            · rw [List.length_set]; exact Hl.out
            · exact small_set L' (i + j) _ Hs.out (by omega)
            · exact mul_step Hv.out h1 HD2.out
            · intro k hk2
              rw [getD_set_ne _ _ _ _ (by omega)]
              exact Hz.out k (by omega)
          case measure => simp [intOf]; omega
        · obtain rfl : j = dy.length := by omega
          rw [List.take_length] at Hv
          have hk : i + dy.length < L'.length := by omega
          have co := ar.cell (i + dy.length)
          rw [wc_at L' (i + dy.length) hk] at co
          have fo := ar.frozen (i + dy.length)
          have hkN : i + dy.length < N := by omega
          have hz0 : L'[i + dy.length] = 0 := by
            have e1 := hz' (i + dy.length) (Nat.le_refl _)
            rw [HLz.out _ (Nat.le_refl _)] at e1
            simpa [List.getD_eq_getElem?_getD, List.getElem?_eq_getElem hk] using e1
          have HSV := Lib.hid (dval_set L' (i + dy.length) c hk)
          rw [hz0] at HSV co
          have ky1 : wr.cell? ⟨gy, 1, none⟩ = some (.slice Ay dy.length cy) := (ay1.below hb hgy).cell 1
          clear hl' hs' hv' hz' hz0
          go_wp2
          go_roundw
          case rel =>
            refine ⟨i + 1, L'.set (i + dy.length) c, by omega, by go_num, ?_, ?_, ?_, ?_, ?_, hb.setCell (Nat.le_refl _) _⟩
            · have := ar.set (i + dy.length) (.int .u32 (c : Int))
              rw [wc_set] at this
              exact this
            · rw [List.length_set]; exact Hl.out
            · exact small_set L' (i + dy.length) _ Hs.out hc
            · exact mul_row Hv.out HSV.out HLv.out HD.out
            · intro k hk2
              rw [getD_set_ne _ _ _ _ (by omega), Hz.out k (by omega)]
              exact HLz.out k (by omega)
          case measure => simp [intOf]; omega
    · obtain rfl : i = dx.length := by omega
      rw [List.take_length] at HLv
      have ax2 := ax1.below hb hgx
      have ay2 := ay1.below hb hgy
      have az2 := az1.below hb hgz
      have kx0 : wr.cell? ⟨gx, 0, none⟩ = some (.bool nx) := ax2.cell 0
      have ky0 : wr.cell? ⟨gy, 0, none⟩ = some (.bool ny) := ay2.cell 0
      have hul := us_of_arr ar
      have fz := az2.frozen 0
      have az3 := az2.set 0 (.bool (!(nx == ny)))
      have fz1 := az3.frozen 1
      have kz0 : wr.cell? ⟨gz, 0, none⟩ = some (.bool bz) := az2.cell 0
      have kz1 : (wr.setCell ⟨gz, 0, none⟩ (.bool (!(nx == ny)))).cell? ⟨gz, 1, none⟩ = some (.slice Az nz cz) := az3.cell 1
      have az4 := az3.set 1 (.slice (some ⟨w.heap.size, 0, none⟩) N N)
      simp only [List.set_cons_zero, List.set_cons_succ] at az3 az4
      have hu3 := Us.other (k := 0) az2 hul (.bool (!(nx == ny)))
      have hu4 := Us.other (k := 1) az3 hu3 (.slice (some ⟨w.heap.size, 0, none⟩) N N)
      obtain ⟨W2, hW2⟩ : ∃ W2, (wr.setCell ⟨gz, 0, none⟩ (.bool (!(nx == ny)))).setCell ⟨gz, 1, none⟩ (.slice (some ⟨w.heap.size, 0, none⟩) N N) = W2 := ⟨_, rfl⟩
      have HA4 := Lib.hid az4
      have HU4 := Lib.hid hu4
      have hgr : w.grownBy W2 (some gz) := by
        rw [← hW2]
        exact grown_trans (grown_trans (grown_of_below (hb1.trans hb)) (grown_set _ _ _ _)) (grown_set _ _ _ _)
      have hsz : W2.heap.size = wr.heap.size := by rw [← hW2]; simp
      rw [hW2] at az4 hu4
      have ht := trim_any gz (!(nx == ny)) (some ⟨w.heap.size, 0, none⟩) L N W2.drew (by rw [HLl.out]; exact az4) (by show Us W2 W2.heap.size _ _; rw [hsz]; exact hu4) (by rw [HLl.out]; exact Nat.le_refl _) HLs.out (by rw [HLl.out, ← HN.out]; omega)
      have HT := Lib.hid ht
      have HG := Lib.hid hgr
      have HW2 := Lib.hid hW2
      clear ht hgr hW2 hu4 hu3 az4 hul HA4 HU4 hsz
      go_upto_region 15 with (fail)
      refine Phase.wp_region_phases [([1, 11], [0, 2, 3, 4, 5, 6, 7, 8, 9, 10, 12, 13], some 14), ([], [15, 16], some 17)] (fun W => W = wr.drew) (by kernel_rfl) (by kernel_rfl) (fun _ _ d _ _ h => by cases d <;> exact h) rfl ?_
      refine Phase.g_alone rfl ?_
      repeat (refine Phase.p_step rfl (fun K hK => ?_); go_simp; refine hK _ ?_; clear hK K)
      refine Phase.p_nil ?_
      repeat (refine Phase.q_step rfl (fun K hK => ?_); go_simp; refine hK _ ?_; clear hK K)
      refine Phase.q_nil ?_
      rintro _ rfl K hK
      go_simp
      refine hK _ _ ⟨fun W => W = (wr.setCell ⟨gz, 0, none⟩ (.bool (!(nx == ny)))).drew, rfl, ?_⟩
      clear hK K
      refine Phase.g_alone rfl (Phase.p_nil ?_)
      repeat (refine Phase.q_step rfl (fun K hK => ?_); go_simp; refine hK _ ?_; clear hK K)
      refine Phase.q_nil ?_
      rintro _ rfl K hK
      go_simp
      refine hK _ _ ⟨fun W => W = W2.drew, by rw [← HW2.out], ?_⟩
      clear hK K
      refine Phase.g_nil ?_
      rintro _ rfl
      clear HW2 hb hb1 hbw az1 ay1 ax1 ar az2 ay2 ax2 az3 kx0 ky0 kz0 kz1 fz fz1
      go_wp2_with fail
      refine HT.out.mono ?_
      clear HT
      rintro e w' ⟨rfl, hI, hg⟩
      go_wp2
      go_ret
      have HG2 : w.grownBy W2.drew (some gz) := grown_trans HG.out ⟨rfl, rfl, rfl, Nat.le_refl _, fun _ _ _ => rfl⟩
      exact ⟨rfl, ⟨_, _, hI, sgn_mul ((dval_trim L).trans HLv.out), by intro h; rw [Bool.and_eq_true] at h; intro h0; rw [h0] at h; simp at h⟩, grown_trans HG2 hg⟩
end Go.Proofs.YtfngomlknhappaaDoor.BigMulW
