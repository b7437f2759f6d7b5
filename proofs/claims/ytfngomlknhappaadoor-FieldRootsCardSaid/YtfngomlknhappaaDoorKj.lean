/-
  Several texts in one: BigM, BigSum, BigLess, BigCmp. What each holds stands at its head. Conditions: in each statement.
-/
import Derived.Test.YtfngomlknhappaaDoorKe

/-
  Digits of 32 bits: their value and how many there are; sums and differences digit by digit; which is greater. No program is named here. Conditions: in each statement.
-/
namespace Go.Proofs.YtfngomlknhappaaDoor.BigM
open BigW BigNewW BigMulW

/-- Each below 2^32. -/
def Sd (l : List Nat) : Prop := ∀ x ∈ l, x < 4294967296
theorem Sd.getD {l : List Nat} (h : Sd l) (k : Nat) : l.getD k 0 < 4294967296 := by
  rw [List.getD_eq_getElem?_getD]
  cases e : l[k]? with
  | none => simp
  | some x => exact h x (List.mem_of_getElem? e)
theorem dval_lt {l : List Nat} (h : Sd l) : dval l < 4294967296 ^ l.length := by
  induction l with
  | nil => simp [dval]
  | cons x r ih =>
    have h1 := h x (List.mem_cons_self ..)
    have h2 := ih (fun y hy => h y (List.mem_cons_of_mem _ hy))
    rw [dval, List.length_cons, Nat.pow_succ]
    omega
theorem dval_ge {l : List Nat} (ht : Tidy l) (h0 : l ≠ []) : 4294967296 ^ (l.length - 1) ≤ dval l := by
  rcases List.eq_nil_or_concat l with h | ⟨r, x, rfl⟩
  · exact absurd h h0
  · rw [List.concat_eq_append, dval_append, List.length_append, List.length_singleton, Nat.add_sub_cancel]
    have hx : x ≠ 0 := by
      rcases ht with h | h
      · exact absurd h h0
      · intro e
        rw [List.concat_eq_append, List.getLast?_append, e] at h
        exact h rfl
    have : 1 ≤ dval [x] := by simp [dval]; omega
    have h1 := Nat.mul_le_mul_left (4294967296 ^ r.length) this
    omega
/-- Not many digits where the number is not great. -/
theorem len_le {l : List Nat} (ht : Tidy l) {n : Nat} (h : dval l < 4294967296 ^ n) : l.length ≤ n := by
  by_cases h0 : l = []
  · rw [h0]; exact Nat.zero_le _
  · have h1 := dval_ge ht h0
    have h2 : 4294967296 ^ (l.length - 1) < 4294967296 ^ n := Nat.lt_of_le_of_lt h1 h
    have h3 : l.length - 1 < n := (Nat.pow_lt_pow_iff_right (by decide)).1 h2
    omega
theorem dval_zero {l : List Nat} (ht : Tidy l) (h : dval l = 0) : l = [] := by
  apply Classical.byContradiction
  intro h0
  have := dval_ge ht h0
  have : 0 < 4294967296 ^ (l.length - 1) := Nat.pow_pos (by decide)
  omega
/-- One number has one row of digits. -/
theorem dval_inj : ∀ {l m : List Nat}, Sd l → Sd m → Tidy l → Tidy m → dval l = dval m → l = m := by
  have key : ∀ (l m : List Nat), Sd l → Sd m → l.length = m.length → dval l = dval m → l = m := by
    intro l
    induction l with
    | nil => intro m _ _ hl _; cases m with
      | nil => rfl
      | cons y s => simp at hl
    | cons x r ih =>
      intro m hl hm hlen h
      cases m with
      | nil => simp at hlen
      | cons y s =>
        have h1 := hl x (List.mem_cons_self ..)
        have h2 := hm y (List.mem_cons_self ..)
        rw [dval, dval] at h
        have e1 : x = y := by omega
        have e2 := ih s (fun z hz => hl z (List.mem_cons_of_mem _ hz)) (fun z hz => hm z (List.mem_cons_of_mem _ hz)) (by simpa using hlen) (by omega)
        rw [e1, e2]
  intro l m hl hm tl tm h
  refine key l m hl hm ?_ h
  have h1 := len_le tl (n := m.length) (by rw [h]; exact dval_lt hm)
  have h2 := len_le tm (n := l.length) (by rw [← h]; exact dval_lt hl)
  omega
/-- More digits: a greater number. -/
theorem dval_lt_len {l m : List Nat} (hl : Sd l) (tm : Tidy m) (h : l.length < m.length) : dval l < dval m := by
  have h1 := dval_lt hl
  have h2 := dval_ge tm (fun e => by rw [e] at h; simp at h)
  have h3 : 4294967296 ^ l.length ≤ 4294967296 ^ (m.length - 1) := Nat.pow_le_pow_right (by decide) (by omega)
  omega
theorem dval_split (l : List Nat) (k : Nat) (h : k < l.length) : dval l = dval (l.take k) + 4294967296 ^ k * (l[k] + 4294967296 * dval (l.drop (k + 1))) := by
  have e : l = l.take k ++ l.drop k := (List.take_append_drop k l).symm
  conv => lhs; rw [e, dval_append, List.length_take, Nat.min_eq_left (by omega), List.drop_eq_getElem_cons h, dval]
/-- The first place, from above, at which they differ. -/
theorem dval_cmp {l m : List Nat} (hl : Sd l) (k : Nat) (h1 : k < l.length) (h2 : k < m.length) (ht : l.drop (k + 1) = m.drop (k + 1)) (h : l[k] < m[k]) : dval l < dval m := by
  have e1 := dval_split l k h1
  have e2 := dval_split m k h2
  have b1 : dval (l.take k) < 4294967296 ^ k := by
    have := dval_lt (l := l.take k) (fun x hx => hl x (List.mem_of_mem_take hx))
    rw [List.length_take, Nat.min_eq_left (by omega)] at this
    exact this
  rw [← ht] at e2
  generalize dval (l.drop (k + 1)) = t at *
  have h3 : l[k] + 4294967296 * t + 1 ≤ m[k] + 4294967296 * t := by omega
  have h4 := Nat.mul_le_mul_left (4294967296 ^ k) h3
  rw [Nat.mul_add, Nat.mul_one] at h4
  omega

/-- Sums digit by digit: what has been written, with what is carried. -/
theorem sum_step (L x y : List Nat) (k c s : Nat) (hk : k < x.length) (hL : k < L.length) (hs : s = c + x[k] + y.getD k 0)
    (h : dval (L.take k) + c * 4294967296 ^ k = dval (x.take k) + dval (y.take k)) :
    dval ((L.set k (s % 4294967296)).take (k + 1)) + s / 4294967296 * 4294967296 ^ (k + 1) = dval (x.take (k + 1)) + dval (y.take (k + 1)) := by
  have ey : dval (y.take (k + 1)) = dval (y.take k) + 4294967296 ^ k * y.getD k 0 := by
    by_cases hy : k < y.length
    · rw [dval_take_succ y k hy, List.getD_eq_getElem?_getD, List.getElem?_eq_getElem hy]; rfl
    · rw [List.take_of_length_le (by omega), List.take_of_length_le (by omega), List.getD_eq_getElem?_getD, List.getElem?_eq_none (by omega)]
      simp
  have eL : dval ((L.set k (s % 4294967296)).take (k + 1)) = dval (L.take k) + 4294967296 ^ k * (s % 4294967296) := by
    rw [dval_take_succ _ k (by rw [List.length_set]; exact hL), List.take_set, List.set_eq_of_length_le (by rw [List.length_take]; omega), List.getElem_set_self]
  rw [eL, dval_take_succ x k hk, ey, Nat.pow_succ]
  have e1 : s / 4294967296 * (4294967296 ^ k * 4294967296) = 4294967296 ^ k * (4294967296 * (s / 4294967296)) := by rw [Nat.mul_comm, Nat.mul_assoc]
  have e2 : s % 4294967296 + 4294967296 * (s / 4294967296) = c + x[k] + y.getD k 0 := by rw [← hs]; exact Nat.mod_add_div s 4294967296
  have e3 : 4294967296 ^ k * (s % 4294967296) + 4294967296 ^ k * (4294967296 * (s / 4294967296)) = 4294967296 ^ k * c + 4294967296 ^ k * x[k] + 4294967296 ^ k * y.getD k 0 := by rw [← Nat.mul_add, e2, Nat.mul_add, Nat.mul_add]
  rw [Nat.mul_comm c] at h
  rw [e1]
  omega
/-- Differences: what is borrowed. -/
theorem less_step (L x y : List Nat) (k c r b : Nat) (hk : k < x.length) (hL : k < L.length) (hr : r + y.getD k 0 + c = x[k] + b * 4294967296)
    (h : dval (L.take k) + dval (y.take k) = dval (x.take k) + c * 4294967296 ^ k) :
    dval ((L.set k r).take (k + 1)) + dval (y.take (k + 1)) = dval (x.take (k + 1)) + b * 4294967296 ^ (k + 1) := by
  have ey : dval (y.take (k + 1)) = dval (y.take k) + 4294967296 ^ k * y.getD k 0 := by
    by_cases hy : k < y.length
    · rw [dval_take_succ y k hy, List.getD_eq_getElem?_getD, List.getElem?_eq_getElem hy]; rfl
    · rw [List.take_of_length_le (by omega), List.take_of_length_le (by omega), List.getD_eq_getElem?_getD, List.getElem?_eq_none (by omega)]
      simp
  have eL : dval ((L.set k r).take (k + 1)) = dval (L.take k) + 4294967296 ^ k * r := by
    rw [dval_take_succ _ k (by rw [List.length_set]; exact hL), List.take_set, List.set_eq_of_length_le (by rw [List.length_take]; omega), List.getElem_set_self]
  rw [eL, dval_take_succ x k hk, ey, Nat.pow_succ]
  have e1 : b * (4294967296 ^ k * 4294967296) = 4294967296 ^ k * (b * 4294967296) := by rw [← Nat.mul_assoc, Nat.mul_comm b, Nat.mul_assoc]
  have e3 : 4294967296 ^ k * r + 4294967296 ^ k * y.getD k 0 + 4294967296 ^ k * c = 4294967296 ^ k * x[k] + 4294967296 ^ k * (b * 4294967296) := by rw [← Nat.mul_add, ← Nat.mul_add, hr, Nat.mul_add]
  rw [Nat.mul_comm c] at h
  rw [e1]
  omega
end Go.Proofs.YtfngomlknhappaaDoor.BigM

/-
  The document's own whole numbers: sums of digits (sumOf). Conditions: in each statement.
-/
namespace Go.Proofs.YtfngomlknhappaaDoor.BigSumW
open Go.RowKit BytesW CellsW WordsW ArrW BigW BigNewW BigMulW BigM

set_option maxHeartbeats 4000000 in
set_option maxRecDepth 100000 in
theorem sum_any (Ax : Option Addr) (x : List Nat) (cx : Nat) (Ay : Option Addr) (y : List Nat) (cy : Nat) (w : World) (hx : Us w w.heap.size Ax x) (hy : Us w w.heap.size Ay y) (sx : Sd x) (sy : Sd y) (lx : x.length ≤ 1048576) (ly : y.length ≤ 1048576) :
    Calls Tryd.prog 39 #[.slice Ax x.length cx, .slice Ay y.length cy] w fun e w' => ∃ D, e = .returned (.slice (some ⟨w.heap.size, 0, none⟩) D.length D.length) ∧ Arr w' w.heap.size 57 (wc D) ∧ Sd D ∧ dval D = dval x + dval y ∧ D.length ≤ x.length + y.length + 1 ∧ Below w.heap.size w w' := by
  by_cases h : x.length < y.length
  · have cxy : decide ((x.length : Int) < (y.length : Int)) = true := decide_eq_true (by omega)
    have cxy2 : decide (x.length < y.length) = true := decide_eq_true h
    have HX := Lib.hid hy
    have HY := Lib.hid hx
    have SX := Lib.hid sy
    have SY := Lib.hid sx
    have HXY := Lib.hid (Nat.le_of_lt h)
    clear hx hy sx sy h
    go_enter Tryd.func39, Tryd.ntmps39
    go_upto_region 3 with (fail)
    obtain ⟨N, hN⟩ : ∃ N, y.length + 1 = N := ⟨_, rfl⟩
    have HN := Lib.hid hN
    have esum : IntKind.i64.wrap ((y.length : Int) + 1) = (N : Int) := by rw [IntWalk.i64_in _ (by omega)]; omega
    have hmk := makeU N (by omega)
    have ar := made_arr N w
    have hb1 := (Below.refl w.heap.size w).alloc (Nat.le_refl _) (.cells (madeCells #[.int .u32 0] N) 57)
    go_upto_region 4 with (fail)
    obtain ⟨W1, hW1⟩ : ∃ W1, w.alloc (.cells (madeCells #[.int .u32 0] N) 57) = W1 := ⟨_, rfl⟩
    rw [hW1] at ar hb1 ⊢
    have AR := Lib.hid ar
    have HB1 := Lib.hid hb1
    clear hmk esum hN hW1 ar hb1
    go_wp2
    go_loopw [6, 22] (fun vc vk wr => ∃ (k c : Nat) (L : List Nat), k ≤ y.length ∧ vk = .int .i64 (k : Int) ∧ vc = .int .u64 (c : Int) ∧ c ≤ 1 ∧ Arr wr w.heap.size 57 (wc L) ∧ L.length = N ∧ Sd L ∧ dval (L.take k) + c * 4294967296 ^ k = dval (y.take k) + dval (x.take k) ∧ Below w.heap.size W1 wr) (fun _ vk _ => y.length - (intOf vk).toNat)
    case atStart => exact ⟨0, 0, List.replicate N 0, Nat.zero_le _, rfl, rfl, by omega, AR.out, by simp, fun z hz => by rw [List.eq_of_mem_replicate hz]; decide, by simp [dval], Below.refl _ _⟩
    case round =>
      obtain ⟨k, c, L, hk, rfl, rfl, hc, ar, hLl, hLs, hLv, hb⟩ := hrel
      have A1 := Lib.hid ar
      have Ll := Lib.hid hLl
      have Ls := Lib.hid hLs
      have Lv := Lib.hid hLv
      have B1 := Lib.hid hb
      clear ar hLl hLs hLv hb
      have BW := Lib.hid (HB1.out.trans B1.out)
      by_cases hlt : k < y.length
      · have ct : decide ((k : Int) < (y.length : Int)) = true := decide_eq_true (by omega)
        obtain ⟨ad, rfl, _, cxk⟩ := (HX.out.below BW.out).at_ hlt
        have lx1 := SX.out _ (List.getElem_mem hlt)
        have hkL : k < L.length := by have := Ll.out; have := HN.out; omega
        have ik : (k : Int) < (N : Int) := by have := HN.out; omega
        have co := A1.out.cell k
        rw [wc_at L k hkL] at co
        have fo := A1.out.frozen k
        have HST := Lib.hid (fun s hs => sum_step L y x k c s hlt hkL hs Lv.out)
        generalize y[k]'hlt = x1 at *
        generalize L[k]'hkL = old at *
        by_cases hky : k < x.length
        · have cy : decide ((k : Int) < (x.length : Int)) = true := decide_eq_true (by omega)
          obtain ⟨ad2, had2, _, cyk⟩ := (HY.out.below BW.out).at_ hky
          subst had2
          have ly1 := SY.out _ (List.getElem_mem hky)
          have hyd : x.getD k 0 = x[k]'hky := by rw [List.getD_eq_getElem?_getD, List.getElem?_eq_getElem hky]; rfl
          rw [hyd] at HST
          generalize x[k]'hky = y1 at *
          clear hyd
          obtain ⟨s, hs⟩ : ∃ s, c + x1 + y1 = s := ⟨_, rfl⟩
          have Hs := Lib.hid hs
          have e1 : IntKind.u64.wrap ((c : Int) + (x1 : Int)) = ((c + x1 : Nat) : Int) := by rw [IntWalk.u64_in _ (by omega)]; omega
          have e2 : IntKind.u64.wrap (((c + x1 : Nat) : Int) + (y1 : Int)) = (s : Int) := by rw [IntWalk.u64_in _ (by omega)]; omega
          have hsl : s < 8589934592 := by omega
          obtain ⟨p, hp⟩ : ∃ p, c + x1 = p := ⟨_, rfl⟩
          rw [hp] at e1 e2
          have ex : IntKind.u64.wrap (x1 : Int) = (x1 : Int) := IntWalk.u64_in _ (by omega)
          have ey : IntKind.u64.wrap (y1 : Int) = (y1 : Int) := IntWalk.u64_in _ (by omega)
          have es : IntKind.u32.wrap (s : Int) = ((s % 4294967296 : Nat) : Int) := by rw [IntKind.wrap_u32]; omega
          have hp2 : p < 8589934592 := by omega
          have aw := A1.out.set k (.int .u32 ((s % 4294967296 : Nat) : Int))
          rw [wc_set] at aw
          have AW := Lib.hid aw
          have BN := Lib.hid (B1.out.setCell (p := ⟨w.heap.size, k, none⟩) (Nat.le_refl _) (.int .u32 ((s % 4294967296 : Nat) : Int)))
          clear hs hp aw
          go_wp2
          go_roundw
          case rel => exact ⟨k + 1, s / 4294967296, _, by omega, by go_num, by go_num, by omega, by first | exact AW.out | simpa using AW.out, by rw [List.length_set]; exact Ll.out, small_set L k _ Ls.out (by omega), HST.out s (by rw [← Hs.out]), by first | exact BN.out | simpa using BN.out⟩
          case measure => simp [intOf]; omega
        · have cy : decide ((k : Int) < (x.length : Int)) = false := decide_eq_false (by omega)
          have hyd : x.getD k 0 = 0 := by rw [List.getD_eq_getElem?_getD, List.getElem?_eq_none (by omega)]; rfl
          rw [hyd] at HST
          clear hyd
          obtain ⟨s, hs⟩ : ∃ s, c + x1 = s := ⟨_, rfl⟩
          have Hs := Lib.hid hs
          have e1 : IntKind.u64.wrap ((c : Int) + (x1 : Int)) = (s : Int) := by rw [IntWalk.u64_in _ (by omega)]; omega
          have hsl : s < 8589934592 := by omega
          have ex : IntKind.u64.wrap (x1 : Int) = (x1 : Int) := IntWalk.u64_in _ (by omega)
          have es : IntKind.u32.wrap (s : Int) = ((s % 4294967296 : Nat) : Int) := by rw [IntKind.wrap_u32]; omega
          have aw := A1.out.set k (.int .u32 ((s % 4294967296 : Nat) : Int))
          rw [wc_set] at aw
          have AW := Lib.hid aw
          have BN := Lib.hid (B1.out.setCell (p := ⟨w.heap.size, k, none⟩) (Nat.le_refl _) (.int .u32 ((s % 4294967296 : Nat) : Int)))
          clear hs aw
          go_wp2
          go_roundw
          case rel => exact ⟨k + 1, s / 4294967296, _, by omega, by go_num, by go_num, by omega, by first | exact AW.out | simpa using AW.out, by rw [List.length_set]; exact Ll.out, small_set L k _ Ls.out (by omega), HST.out s (by rw [← Hs.out, Nat.add_zero]), by first | exact BN.out | simpa using BN.out⟩
          case measure => simp [intOf]; omega
      · obtain rfl : k = y.length := by omega
        have ct : decide ((y.length : Int) < (y.length : Int)) = false := decide_eq_false (by omega)
        have hkL : y.length < L.length := by have := Ll.out; have := HN.out; omega
        have ik : (y.length : Int) < (N : Int) := by have := HN.out; omega
        have co := A1.out.cell y.length
        rw [wc_at L _ hkL] at co
        have fo := A1.out.frozen y.length
        have es : IntKind.u32.wrap (c : Int) = (c : Int) := by rw [IntKind.wrap_u32]; omega
        have lv := Lv.out
        rw [List.take_length, List.take_of_length_le (Nat.le_of_not_lt (by have := HXY.out; omega) : x.length ≤ y.length)] at lv
        have hset : dval (L.set y.length c) = dval y + dval x := by
          have e : L.set y.length c = (L.set y.length c).take (y.length + 1) := (List.take_of_length_le (by rw [List.length_set]; have := Ll.out; have := HN.out; omega)).symm
          rw [e, dval_take_succ _ _ (by rw [List.length_set]; exact hkL), List.take_set, List.set_eq_of_length_le (by rw [List.length_take]; omega), List.getElem_set_self, ← lv, Nat.mul_comm c]
        have aw := A1.out.set y.length (.int .u32 (c : Int))
        rw [wc_set] at aw
        have AW := Lib.hid aw
        have HSt := Lib.hid hset
        have BN := Lib.hid (BW.out.setCell (p := ⟨w.heap.size, y.length, none⟩) (Nat.le_refl _) (.int .u32 (c : Int)))
        have HLn := Lib.hid (show (L.set y.length c).length = N by rw [List.length_set]; exact Ll.out)
        have HSm := Lib.hid (small_set L y.length c Ls.out (by omega))
        generalize L[y.length]'hkL = old at *
        clear hset lv aw
        go_wp2
        go_ret
        refine ⟨L.set y.length c, by rw [HLn.out]; rfl, by first | exact AW.out | simpa using AW.out, HSm.out, by rw [HSt.out, Nat.add_comm], by rw [HLn.out, ← HN.out]; omega, by first | exact BN.out | simpa using BN.out⟩
  · have cxy : decide ((x.length : Int) < (y.length : Int)) = false := decide_eq_false (by omega)
    have cxy2 : decide (x.length < y.length) = false := decide_eq_false h
    have HX := Lib.hid hx
    have HY := Lib.hid hy
    have SX := Lib.hid sx
    have SY := Lib.hid sy
    have HXY := Lib.hid (Nat.le_of_not_lt h)
    clear hx hy sx sy h
    go_enter Tryd.func39, Tryd.ntmps39
    go_upto_region 3 with (fail)
    obtain ⟨N, hN⟩ : ∃ N, x.length + 1 = N := ⟨_, rfl⟩
    have HN := Lib.hid hN
    have esum : IntKind.i64.wrap ((x.length : Int) + 1) = (N : Int) := by rw [IntWalk.i64_in _ (by omega)]; omega
    have hmk := makeU N (by omega)
    have ar := made_arr N w
    have hb1 := (Below.refl w.heap.size w).alloc (Nat.le_refl _) (.cells (madeCells #[.int .u32 0] N) 57)
    go_upto_region 4 with (fail)
    obtain ⟨W1, hW1⟩ : ∃ W1, w.alloc (.cells (madeCells #[.int .u32 0] N) 57) = W1 := ⟨_, rfl⟩
    rw [hW1] at ar hb1 ⊢
    have AR := Lib.hid ar
    have HB1 := Lib.hid hb1
    clear hmk esum hN hW1 ar hb1
    go_wp2
    go_loopw [6, 22] (fun vc vk wr => ∃ (k c : Nat) (L : List Nat), k ≤ x.length ∧ vk = .int .i64 (k : Int) ∧ vc = .int .u64 (c : Int) ∧ c ≤ 1 ∧ Arr wr w.heap.size 57 (wc L) ∧ L.length = N ∧ Sd L ∧ dval (L.take k) + c * 4294967296 ^ k = dval (x.take k) + dval (y.take k) ∧ Below w.heap.size W1 wr) (fun _ vk _ => x.length - (intOf vk).toNat)
    case atStart => exact ⟨0, 0, List.replicate N 0, Nat.zero_le _, rfl, rfl, by omega, AR.out, by simp, fun z hz => by rw [List.eq_of_mem_replicate hz]; decide, by simp [dval], Below.refl _ _⟩
    case round =>
      obtain ⟨k, c, L, hk, rfl, rfl, hc, ar, hLl, hLs, hLv, hb⟩ := hrel
      have A1 := Lib.hid ar
      have Ll := Lib.hid hLl
      have Ls := Lib.hid hLs
      have Lv := Lib.hid hLv
      have B1 := Lib.hid hb
      clear ar hLl hLs hLv hb
      have BW := Lib.hid (HB1.out.trans B1.out)
      by_cases hlt : k < x.length
      · have ct : decide ((k : Int) < (x.length : Int)) = true := decide_eq_true (by omega)
        obtain ⟨ad, rfl, _, cxk⟩ := (HX.out.below BW.out).at_ hlt
        have lx1 := SX.out _ (List.getElem_mem hlt)
        have hkL : k < L.length := by have := Ll.out; have := HN.out; omega
        have ik : (k : Int) < (N : Int) := by have := HN.out; omega
        have co := A1.out.cell k
        rw [wc_at L k hkL] at co
        have fo := A1.out.frozen k
        have HST := Lib.hid (fun s hs => sum_step L x y k c s hlt hkL hs Lv.out)
        generalize x[k]'hlt = x1 at *
        generalize L[k]'hkL = old at *
        by_cases hky : k < y.length
        · have cy : decide ((k : Int) < (y.length : Int)) = true := decide_eq_true (by omega)
          obtain ⟨ad2, had2, _, cyk⟩ := (HY.out.below BW.out).at_ hky
          subst had2
          have ly1 := SY.out _ (List.getElem_mem hky)
          have hyd : y.getD k 0 = y[k]'hky := by rw [List.getD_eq_getElem?_getD, List.getElem?_eq_getElem hky]; rfl
          rw [hyd] at HST
          generalize y[k]'hky = y1 at *
          clear hyd
          obtain ⟨s, hs⟩ : ∃ s, c + x1 + y1 = s := ⟨_, rfl⟩
          have Hs := Lib.hid hs
          have e1 : IntKind.u64.wrap ((c : Int) + (x1 : Int)) = ((c + x1 : Nat) : Int) := by rw [IntWalk.u64_in _ (by omega)]; omega
          have e2 : IntKind.u64.wrap (((c + x1 : Nat) : Int) + (y1 : Int)) = (s : Int) := by rw [IntWalk.u64_in _ (by omega)]; omega
          have hsl : s < 8589934592 := by omega
          obtain ⟨p, hp⟩ : ∃ p, c + x1 = p := ⟨_, rfl⟩
          rw [hp] at e1 e2
          have ex : IntKind.u64.wrap (x1 : Int) = (x1 : Int) := IntWalk.u64_in _ (by omega)
          have ey : IntKind.u64.wrap (y1 : Int) = (y1 : Int) := IntWalk.u64_in _ (by omega)
          have es : IntKind.u32.wrap (s : Int) = ((s % 4294967296 : Nat) : Int) := by rw [IntKind.wrap_u32]; omega
          have hp2 : p < 8589934592 := by omega
          have aw := A1.out.set k (.int .u32 ((s % 4294967296 : Nat) : Int))
          rw [wc_set] at aw
          have AW := Lib.hid aw
          have BN := Lib.hid (B1.out.setCell (p := ⟨w.heap.size, k, none⟩) (Nat.le_refl _) (.int .u32 ((s % 4294967296 : Nat) : Int)))
          clear hs hp aw
          go_wp2
          go_roundw
          case rel => exact ⟨k + 1, s / 4294967296, _, by omega, by go_num, by go_num, by omega, by first | exact AW.out | simpa using AW.out, by rw [List.length_set]; exact Ll.out, small_set L k _ Ls.out (by omega), HST.out s (by rw [← Hs.out]), by first | exact BN.out | simpa using BN.out⟩
          case measure => simp [intOf]; omega
        · have cy : decide ((k : Int) < (y.length : Int)) = false := decide_eq_false (by omega)
          have hyd : y.getD k 0 = 0 := by rw [List.getD_eq_getElem?_getD, List.getElem?_eq_none (by omega)]; rfl
          rw [hyd] at HST
          clear hyd
          obtain ⟨s, hs⟩ : ∃ s, c + x1 = s := ⟨_, rfl⟩
          have Hs := Lib.hid hs
          have e1 : IntKind.u64.wrap ((c : Int) + (x1 : Int)) = (s : Int) := by rw [IntWalk.u64_in _ (by omega)]; omega
          have hsl : s < 8589934592 := by omega
          have ex : IntKind.u64.wrap (x1 : Int) = (x1 : Int) := IntWalk.u64_in _ (by omega)
          have es : IntKind.u32.wrap (s : Int) = ((s % 4294967296 : Nat) : Int) := by rw [IntKind.wrap_u32]; omega
          have aw := A1.out.set k (.int .u32 ((s % 4294967296 : Nat) : Int))
          rw [wc_set] at aw
          have AW := Lib.hid aw
          have BN := Lib.hid (B1.out.setCell (p := ⟨w.heap.size, k, none⟩) (Nat.le_refl _) (.int .u32 ((s % 4294967296 : Nat) : Int)))
          clear hs aw
          go_wp2
          go_roundw
          case rel => exact ⟨k + 1, s / 4294967296, _, by omega, by go_num, by go_num, by omega, by first | exact AW.out | simpa using AW.out, by rw [List.length_set]; exact Ll.out, small_set L k _ Ls.out (by omega), HST.out s (by rw [← Hs.out, Nat.add_zero]), by first | exact BN.out | simpa using BN.out⟩
          case measure => simp [intOf]; omega
      · obtain rfl : k = x.length := by omega
        have ct : decide ((x.length : Int) < (x.length : Int)) = false := decide_eq_false (by omega)
        have hkL : x.length < L.length := by have := Ll.out; have := HN.out; omega
        have ik : (x.length : Int) < (N : Int) := by have := HN.out; omega
        have co := A1.out.cell x.length
        rw [wc_at L _ hkL] at co
        have fo := A1.out.frozen x.length
        have es : IntKind.u32.wrap (c : Int) = (c : Int) := by rw [IntKind.wrap_u32]; omega
        have lv := Lv.out
        rw [List.take_length, List.take_of_length_le (Nat.le_of_not_lt (by have := HXY.out; omega) : y.length ≤ x.length)] at lv
        have hset : dval (L.set x.length c) = dval x + dval y := by
          have e : L.set x.length c = (L.set x.length c).take (x.length + 1) := (List.take_of_length_le (by rw [List.length_set]; have := Ll.out; have := HN.out; omega)).symm
          rw [e, dval_take_succ _ _ (by rw [List.length_set]; exact hkL), List.take_set, List.set_eq_of_length_le (by rw [List.length_take]; omega), List.getElem_set_self, ← lv, Nat.mul_comm c]
        have aw := A1.out.set x.length (.int .u32 (c : Int))
        rw [wc_set] at aw
        have AW := Lib.hid aw
        have HSt := Lib.hid hset
        have BN := Lib.hid (BW.out.setCell (p := ⟨w.heap.size, x.length, none⟩) (Nat.le_refl _) (.int .u32 (c : Int)))
        have HLn := Lib.hid (show (L.set x.length c).length = N by rw [List.length_set]; exact Ll.out)
        have HSm := Lib.hid (small_set L x.length c Ls.out (by omega))
        generalize L[x.length]'hkL = old at *
        clear hset lv aw
        go_wp2
        go_ret
        refine ⟨L.set x.length c, by rw [HLn.out]; rfl, by first | exact AW.out | simpa using AW.out, HSm.out, HSt.out, by rw [HLn.out, ← HN.out]; omega, by first | exact BN.out | simpa using BN.out⟩
end Go.Proofs.YtfngomlknhappaaDoor.BigSumW

/-
  The document's own whole numbers: differences of digits (lessOf). Conditions: in each statement.
-/
namespace Go.Proofs.YtfngomlknhappaaDoor.BigLessW
open Go.RowKit BytesW CellsW WordsW ArrW BigW BigNewW BigMulW BigM

set_option maxHeartbeats 4000000 in
set_option maxRecDepth 100000 in
theorem less_any (Ax : Option Addr) (x : List Nat) (cx : Nat) (Ay : Option Addr) (y : List Nat) (cy : Nat) (w : World) (hx : Us w w.heap.size Ax x) (hy : Us w w.heap.size Ay y) (sx : Sd x) (sy : Sd y) (lx : x.length ≤ 1048576) (hl : y.length ≤ x.length) (hv : dval y ≤ dval x) :
    Calls Tryd.prog 41 #[.slice Ax x.length cx, .slice Ay y.length cy] w fun e w' => ∃ D, e = .returned (.slice (some ⟨w.heap.size, 0, none⟩) D.length D.length) ∧ Arr w' w.heap.size 57 (wc D) ∧ Sd D ∧ dval D = dval x - dval y ∧ D.length = x.length ∧ Below w.heap.size w w' := by
  have HX := Lib.hid hx
  have HY := Lib.hid hy
  have SX := Lib.hid sx
  have SY := Lib.hid sy
  have HXY := Lib.hid hl
  have HV := Lib.hid hv
  have hmk := makeU x.length (by omega)
  have ar := made_arr x.length w
  have hb1 := (Below.refl w.heap.size w).alloc (Nat.le_refl _) (.cells (madeCells #[.int .u32 0] x.length) 57)
  clear hx hy sx sy hl hv
  go_enter Tryd.func41, Tryd.ntmps41
  go_upto_region 2 with (fail)
  obtain ⟨W1, hW1⟩ : ∃ W1, w.alloc (.cells (madeCells #[.int .u32 0] x.length) 57) = W1 := ⟨_, rfl⟩
  rw [hW1] at ar hb1 ⊢
  have AR := Lib.hid ar
  have HB1 := Lib.hid hb1
  clear hmk hW1 ar hb1
  go_wp2
  go_loopw [6, 15] (fun vc vk wr => ∃ (k c : Nat) (L : List Nat), k ≤ x.length ∧ vk = .int .i64 (k : Int) ∧ vc = .int .u64 (c : Int) ∧ c ≤ 1 ∧ Arr wr w.heap.size 57 (wc L) ∧ L.length = x.length ∧ Sd L ∧ dval (L.take k) + dval (y.take k) = dval (x.take k) + c * 4294967296 ^ k ∧ Below w.heap.size W1 wr) (fun _ vk _ => x.length - (intOf vk).toNat)
  case atStart => exact ⟨0, 0, List.replicate x.length 0, Nat.zero_le _, rfl, rfl, by omega, AR.out, by simp, fun z hz => by rw [List.eq_of_mem_replicate hz]; decide, by simp [dval], Below.refl _ _⟩
  case round =>
    obtain ⟨k, c, L, hk, rfl, rfl, hc, ar, hLl, hLs, hLv, hb⟩ := hrel
    have A1 := Lib.hid ar
    have Ll := Lib.hid hLl
    have Ls := Lib.hid hLs
    have Lv := Lib.hid hLv
    have B1 := Lib.hid hb
    clear ar hLl hLs hLv hb
    have BW := Lib.hid (HB1.out.trans B1.out)
    by_cases hlt : k < x.length
    · have ct : decide ((k : Int) < (x.length : Int)) = true := decide_eq_true (by omega)
      obtain ⟨ad, rfl, _, cxk⟩ := (HX.out.below BW.out).at_ hlt
      have lx1 := SX.out _ (List.getElem_mem hlt)
      have hkL : k < L.length := by have := Ll.out; omega
      have ik : (k : Int) < (x.length : Int) := by omega
      have co := A1.out.cell k
      rw [wc_at L k hkL] at co
      have fo := A1.out.frozen k
      have HST := Lib.hid (fun r b hr => less_step L x y k c r b hlt hkL hr Lv.out)
      generalize x[k]'hlt = x1 at *
      generalize L[k]'hkL = old at *
      have ex : IntKind.u64.wrap (x1 : Int) = (x1 : Int) := IntWalk.u64_in _ (by omega)
      obtain ⟨v1, hv1⟩ : ∃ v1 : Nat, (x1 + 18446744073709551616 - c) % 18446744073709551616 = v1 := ⟨_, rfl⟩
      have e1 : IntKind.u64.wrap ((x1 : Int) - (c : Int)) = (v1 : Int) := by rw [IntKind.wrap_u64]; omega
      by_cases hky : k < y.length
      · have cy : decide ((k : Int) < (y.length : Int)) = true := decide_eq_true (by omega)
        have cy2 : decide (k < y.length) = true := decide_eq_true hky
        obtain ⟨ad2, had2, _, cyk⟩ := (HY.out.below BW.out).at_ hky
        subst had2
        have ly1 := SY.out _ (List.getElem_mem hky)
        have hyd : y.getD k 0 = y[k]'hky := by rw [List.getD_eq_getElem?_getD, List.getElem?_eq_getElem hky]; rfl
        rw [hyd] at HST
        generalize y[k]'hky = y1 at *
        have ey : IntKind.u64.wrap (y1 : Int) = (y1 : Int) := IntWalk.u64_in _ (by omega)
        obtain ⟨v, hv⟩ : ∃ v : Nat, (v1 + 18446744073709551616 - y1) % 18446744073709551616 = v := ⟨_, rfl⟩
        have e2 : IntKind.u64.wrap ((v1 : Int) - (y1 : Int)) = (v : Int) := by rw [IntKind.wrap_u64]; omega
        have HR := Lib.hid (show v % 4294967296 + y1 + c = x1 + v / 9223372036854775808 * 4294967296 by omega)
        have hb1 : v / 9223372036854775808 ≤ 1 := by omega
        have es : IntKind.u32.wrap (v : Int) = ((v % 4294967296 : Nat) : Int) := by rw [IntKind.wrap_u32]; omega
        have aw := A1.out.set k (.int .u32 ((v % 4294967296 : Nat) : Int))
        rw [wc_set] at aw
        have AW := Lib.hid aw
        have BN := Lib.hid (B1.out.setCell (p := ⟨w.heap.size, k, none⟩) (Nat.le_refl _) (.int .u32 ((v % 4294967296 : Nat) : Int)))
        clear hv1 hv hyd aw
        go_wp2
        go_roundw
        case rel => exact ⟨k + 1, v / 9223372036854775808, _, by omega, by go_num, by go_num, hb1, by first | exact AW.out | simpa using AW.out, by rw [List.length_set]; exact Ll.out, small_set L k _ Ls.out (by omega), HST.out _ _ HR.out, by first | exact BN.out | simpa using BN.out⟩
        case measure => simp [intOf]; omega
      · have cy : decide ((k : Int) < (y.length : Int)) = false := decide_eq_false (by omega)
        have cy2 : decide (k < y.length) = false := decide_eq_false hky
        have hyd : y.getD k 0 = 0 := by rw [List.getD_eq_getElem?_getD, List.getElem?_eq_none (by omega)]; rfl
        rw [hyd] at HST
        obtain ⟨v, hv⟩ : ∃ v : Nat, v1 = v := ⟨_, rfl⟩
        subst hv
        have HR := Lib.hid (show v1 % 4294967296 + 0 + c = x1 + v1 / 9223372036854775808 * 4294967296 by omega)
        have hb1 : v1 / 9223372036854775808 ≤ 1 := by omega
        have hv : True := trivial
        have es : IntKind.u32.wrap (v1 : Int) = ((v1 % 4294967296 : Nat) : Int) := by rw [IntKind.wrap_u32]; omega
        have aw := A1.out.set k (.int .u32 ((v1 % 4294967296 : Nat) : Int))
        rw [wc_set] at aw
        have AW := Lib.hid aw
        have BN := Lib.hid (B1.out.setCell (p := ⟨w.heap.size, k, none⟩) (Nat.le_refl _) (.int .u32 ((v1 % 4294967296 : Nat) : Int)))
        clear hv1 hv hyd aw
        go_wp2
        go_roundw
        case rel => exact ⟨k + 1, v1 / 9223372036854775808, _, by omega, by go_num, by go_num, hb1, by first | exact AW.out | simpa using AW.out, by rw [List.length_set]; exact Ll.out, small_set L k _ Ls.out (by omega), HST.out _ _ HR.out, by first | exact BN.out | simpa using BN.out⟩
        case measure => simp [intOf]; omega
    · obtain rfl : k = x.length := by omega
      have ct : decide ((x.length : Int) < (x.length : Int)) = false := decide_eq_false (by omega)
      have lv := Lv.out
      have hLl := Ll.out
      rw [List.take_length, List.take_of_length_le HXY.out, List.take_of_length_le (by omega)] at lv
      have hlt2 := dval_lt Ls.out
      rw [hLl] at hlt2
      have hvv := HV.out
      have hD : dval L = dval x - dval y := by
        obtain rfl | rfl : c = 0 ∨ c = 1 := by omega
        · omega
        · have h1 : dval x < 4294967296 ^ x.length := dval_lt SX.out
          omega
      have HD := Lib.hid hD
      clear lv hlt2 hvv hD hLl hlt
      go_wp2
      go_ret
      refine ⟨L, by rw [Ll.out]; rfl, by first | exact A1.out | simpa using A1.out, Ls.out, HD.out, Ll.out, by first | exact BW.out | simpa using BW.out⟩
end Go.Proofs.YtfngomlknhappaaDoor.BigLessW

/-
  The document's own whole numbers: CmpAbs. Conditions: in each statement.
-/
namespace Go.Proofs.YtfngomlknhappaaDoor.BigCmpW
open Go.RowKit BytesW CellsW WordsW ArrW BigW BigNewW BigMulW BigM

/-- -1, 0 or 1. -/
def cmpN (a b : Nat) : Int := if a < b then -1 else if a = b then 0 else 1
theorem cmpN_lt {a b : Nat} (h : a < b) : cmpN a b = -1 := by unfold cmpN; rw [if_pos h]
theorem cmpN_eq {a b : Nat} (h : a = b) : cmpN a b = 0 := by unfold cmpN; rw [if_neg (by omega), if_pos h]
theorem cmpN_gt {a b : Nat} (h : b < a) : cmpN a b = 1 := by unfold cmpN; rw [if_neg (by omega), if_neg (by omega)]

set_option maxHeartbeats 4000000 in
set_option maxRecDepth 100000 in
theorem cmpabs_any (gx gy : Nat) (nx ny : Bool) (dx dy : List Nat) (w : World) (hx : IntAt w gx nx dx) (hy : IntAt w gy ny dy) (lx : dx.length ≤ 1048576) (ly : dy.length ≤ 1048576) :
    Calls Tryd.prog 40 #[.pointer (some ⟨gx, 0, none⟩), .pointer (some ⟨gy, 0, none⟩)] w fun e w' => e = .returned (.int .i64 (cmpN (dval dx) (dval dy))) ∧ ∃ n, w' = w.drewN n := by
  obtain ⟨⟨Ax, cx, ax, ux, -⟩, sx, tx⟩ := hx
  obtain ⟨⟨Ay, cy, ay, uy, -⟩, sy, ty⟩ := hy
  have kx1 : w.cell? ⟨gx, 1, none⟩ = some (.slice Ax dx.length cx) := ax.cell 1
  have ky1 : w.cell? ⟨gy, 1, none⟩ = some (.slice Ay dy.length cy) := ay.cell 1
  have UX := Lib.hid ux
  have UY := Lib.hid uy
  have SX := Lib.hid sx
  have SY := Lib.hid sy
  have TX := Lib.hid tx
  have TY := Lib.hid ty
  obtain ⟨R, hR⟩ : ∃ R, cmpN (dval dx) (dval dy) = R := ⟨_, rfl⟩
  rw [hR]
  have HR := Lib.hid hR
  clear ux uy sx sy tx ty ax ay hR
  by_cases hne : dx.length = dy.length
  · have t1 : ((dx.length : Int) != (dy.length : Int)) = false := by rw [hne]; simp
    have HE := Lib.hid hne
    clear hne
    go_enter Tryd.func40, Tryd.ntmps40
    go_wp2
    go_quiet (fail)
    have elen : IntKind.i64.wrap ((dx.length : Int) - 1) = (dx.length : Int) - 1 := IntWalk.i64_in _ (by omega)
    go_wp2
    go_loopw [5] (fun vk wr => ∃ (k : Nat), k ≤ dx.length ∧ vk = .int .i64 ((k : Int) - 1) ∧ dx.drop k = dy.drop k ∧ ∃ n, wr = w.drewN n) (fun vk _ => (intOf vk + 1).toNat)
    case atStart => exact ⟨dx.length, Nat.le_refl _, rfl, by rw [List.drop_length, List.drop_of_length_le (Nat.le_of_eq HE.out.symm)], _, rfl⟩
    case round =>
      obtain ⟨k, hk, rfl, hd, n0, rfl⟩ := hrel
      have HD := Lib.hid hd
      clear hd
      cases k with
      | zero =>
        have ct : decide (((0 : Nat) : Int) - 1 ≥ 0) = false := rfl
        have hr := HR.out
        have hdd := HD.out
        rw [List.drop_zero, List.drop_zero] at hdd
        rw [cmpN_eq (by rw [hdd])] at hr
        subst hr
        clear HD hdd HR t1 elen
        rw [show (((0 : Nat) : Int) - 1) = -1 from rfl] at ct ⊢
        go_wp2
        go_ret
        exact ⟨rfl, _, rfl⟩
      | succ m =>
        rw [show (((m + 1 : Nat) : Int) - 1) = (m : Int) by omega]
        have ct : decide ((m : Int) ≥ 0) = true := decide_eq_true (by omega)
        have hmx : m < dx.length := by omega
        have hmy : m < dy.length := by rw [← HE.out]; exact hmx
        obtain ⟨adx, rfl, _, cxm⟩ := UX.out.at_ hmx
        obtain ⟨ady, rfl, _, cym⟩ := UY.out.at_ hmy
        have lxm := SX.out _ (List.getElem_mem hmx)
        have lym := SY.out _ (List.getElem_mem hmy)
        have ix : (m : Int) < (dx.length : Int) := by omega
        have iy : (m : Int) < (dy.length : Int) := by omega
        have HL := Lib.hid (fun h => dval_cmp SX.out m hmx hmy HD.out h)
        have HG := Lib.hid (fun h => dval_cmp SY.out m hmy hmx HD.out.symm h)
        have HS := Lib.hid (fun (h : dx[m] = dy[m]) => show dx.drop m = dy.drop m by rw [List.drop_eq_getElem_cons hmx, List.drop_eq_getElem_cons hmy, h, HD.out])
        generalize dx[m]'hmx = a at *
        generalize dy[m]'hmy = b at *
        have wm : IntKind.i64.wrap ((m : Int) - 1) = (m : Int) - 1 := IntWalk.i64_in _ (by omega)
        by_cases hab : a = b
        · have c1 : ((a : Int) != (b : Int)) = false := by rw [hab]; simp
          have hs := Lib.hid (HS.out hab)
          clear HL HG HS HR t1 elen
          go_wp2
          go_quiet (fail)
          go_wp2
          go_roundw
          case rel => exact ⟨m, by omega, rfl, hs.out, _, by first | rfl | exact World.drewN_drewN _ _ _⟩
          case measure => simp [intOf]
        · have c1 : ((a : Int) != (b : Int)) = true := by rw [bne_iff_ne]; omega
          have c1' : (a != b) = true := by rw [bne_iff_ne]; exact hab
          by_cases hlt : a < b
          · have c2 : decide ((a : Int) < (b : Int)) = true := decide_eq_true (by omega)
            have c3 : decide (a < b) = true := decide_eq_true hlt
            have hr := HR.out
            rw [cmpN_lt (HL.out hlt)] at hr
            subst hr
            clear HL HG HS HR t1 elen hab hlt
            go_wp2
            go_quiet (fail)
            go_wp2
            go_quiet (fail)
            go_wp2
            go_ret
            exact ⟨rfl, _, by first | rfl | exact World.drewN_drewN _ _ _ | rw [World.drewN_drewN, World.drewN_drewN]⟩
          · have c2 : decide ((a : Int) < (b : Int)) = false := decide_eq_false (by omega)
            have c3 : decide (a < b) = false := decide_eq_false hlt
            have hr := HR.out
            rw [cmpN_gt (HG.out (by omega))] at hr
            subst hr
            clear HL HG HS HR t1 elen hab hlt
            go_wp2
            go_quiet (fail)
            go_wp2
            go_quiet (fail)
            go_wp2
            go_ret
            exact ⟨rfl, _, by first | rfl | exact World.drewN_drewN _ _ _ | rw [World.drewN_drewN, World.drewN_drewN]⟩
  · have t1 : ((dx.length : Int) != (dy.length : Int)) = true := by rw [bne_iff_ne]; omega
    have t1' : (dx.length != dy.length) = true := by rw [bne_iff_ne]; exact hne
    by_cases hlt : dx.length < dy.length
    · have t2 : decide ((dx.length : Int) < (dy.length : Int)) = true := decide_eq_true (by omega)
      have hr := HR.out
      rw [cmpN_lt (dval_lt_len SX.out TY.out hlt)] at hr
      subst hr
      clear hne HR
      go_enter Tryd.func40, Tryd.ntmps40
      go_wp2
      go_quiet (fail)
      go_wp2
      go_quiet (fail)
      go_wp2
      go_ret
      exact ⟨rfl, _, World.drewN_drewN _ _ _⟩
    · have t2 : decide ((dx.length : Int) < (dy.length : Int)) = false := decide_eq_false (by omega)
      have hr := HR.out
      rw [cmpN_gt (dval_lt_len SY.out TX.out (by omega))] at hr
      subst hr
      clear hne HR
      go_enter Tryd.func40, Tryd.ntmps40
      go_wp2
      go_quiet (fail)
      go_wp2
      go_quiet (fail)
      go_wp2
      go_ret
      exact ⟨rfl, _, World.drewN_drewN _ _ _⟩
end Go.Proofs.YtfngomlknhappaaDoor.BigCmpW
