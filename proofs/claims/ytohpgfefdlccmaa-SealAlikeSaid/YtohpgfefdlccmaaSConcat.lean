/-
  slices.Grow of the nil slice of bytes, and slices.Concat of rows of bytes: a row of the call's own with all their bytes. Conditions: bounds in each statement.
-/
import Derived.Test.YtohpgfefdlccmaaKb
import Derived.WalkKit
import Derived.BigCall
import Derived.Lib.Hide
import Derived.Outline
import Derived.Deep.DeepMust
import Derived.Lib.AppendZeros
namespace Go.Proofs.Ytohpgfefdlccmaa.SConcatW
open Go.RowKit BytesW RowsW

/-- How long all rows are together. -/
def tot (rs : List (List UInt8)) : Nat := rs.foldr (fun r n => r.length + n) 0
theorem tot_append (a b : List (List UInt8)) : tot (a ++ b) = tot a + tot b := by
  induction a with
  | nil => simp [tot]
  | cons x r ih =>
    have e : tot (x :: (r ++ b)) = x.length + tot (r ++ b) := rfl
    have e' : tot (x :: r) = x.length + tot r := rfl
    rw [List.cons_append, e, e', ih]; omega
theorem tot_flatten (a : List (List UInt8)) : a.flatten.length = tot a := by
  induction a with
  | nil => rfl
  | cons x r ih => rw [List.flatten_cons, List.length_append, ih]; rfl
theorem tot_take (ls : List (List UInt8)) (k : Nat) (h : k < ls.length) : tot (ls.take (k + 1)) = tot (ls.take k) + ls[k].length ∧ tot (ls.take k) + ls[k].length ≤ tot ls := by
  have e1 : tot (ls.take (k + 1)) = tot (ls.take k) + ls[k].length := by
    rw [List.take_succ_eq_append_getElem h, tot_append]; simp [tot]
  refine ⟨e1, ?_⟩
  have e := tot_append (ls.take (k + 1)) (ls.drop (k + 1))
  rw [List.take_append_drop] at e
  omega

set_option maxHeartbeats 2000000 in
set_option maxRecDepth 100000 in
theorem grow_nil (n : Nat) (w : World) (hn : n ≤ 140737488355328) :
    Calls Try.prog 21 #[.slice none 0 0, .int .i64 (n : Int)] w fun e w' => ∃ v, e = .returned v ∧ Row w.heap.size w' v [] ∧ Below w.heap.size w w' := by
  by_cases h0 : n = 0
  · subst h0
    go_enter Try.func21, Try.ntmps21
    go_wp2
    go_ret
    exact ⟨_, rfl, Row.nil _ _, Below.refl _ _⟩
  · have hpos : 0 < n := by omega
    clear h0
    obtain ⟨i0, hi, hz0, hz1, hz2⟩ := info_parts infoByte
    have happ := Lib.run_append_nil_zeros (P := Try.prog) w 22 3 22 5 i0 (.int .u8 0) .i64 .i64 Try.underlying22 Try.underlying3 hi hz0 n hpos (by omega) (by omega) (by rw [hz2]; omega)
    generalize hcap : grownCap w n 0 5 = cap2 at happ
    have hcapge : n ≤ cap2 := by rw [← hcap]; exact grownCap_ge w _ 0 5
    have hcaple : cap2 ≤ maxLen := by rw [← hcap]; exact grownCap_le_maxLen w _ 0 5 (by unfold maxLen; omega)
    generalize hZ : (Builtin.zeroCells (Value.int .u8 0).cells n ++ Builtin.zeroCells (Value.int .u8 0).cells (cap2 - n)) = Z at happ
    have hZs : Z.size = cap2 := by rw [← hZ]; simp [size_zeroCells, Value.cells]; omega
    clear hcap hZ hi hz0 hz1 hz2
    have hrow : Row w.heap.size (w.alloc (.cells Z 5)).drew (.slice (some ⟨w.heap.size, 0, none⟩) 0 cap2) [] := by
      have := World.ownsRow_made (base := w.heap.size) (e := 5) (size := 1) w Z cap2 (Nat.le_refl _) hcaple (by rw [hZs, Nat.mul_one])
      exact this
    have hb : Below w.heap.size w (w.alloc (.cells Z 5)).drew := ((Below.refl w.heap.size w).alloc (Nat.le_refl _) _).drew
    have HZ := Lib.hid hZs
    clear hZs
    go_enter Try.func21, Try.ntmps21
    go_wp2_with (at_builtin; refine Lib.wpList_append_run _ rfl _ _ _ _ rfl _ _ rfl rfl _ _ happ ?_)
    go_wp2
    go_ret
    exact ⟨_, rfl, hrow, hb⟩

set_option maxHeartbeats 4000000 in
set_option maxRecDepth 100000 in
theorem concat_any (A : Option Addr) (ls : List (List UInt8)) (c : Nat) (w : World) (hA : Ms w w.heap.size A ls) (hl : tot ls ≤ 140737488355328) (hll : ls.length ≤ 140737488355328) :
    Calls Try.prog 12 #[.slice A ls.length c] w fun e w' => ∃ v, e = .returned v ∧ Row w.heap.size w' v ls.flatten ∧ Below w.heap.size w w' := by
  go_enter Try.func12, Try.ntmps12
  go_wp2
  go_loop [3, 11] (fun v i => ∃ k : Nat, k ≤ ls.length ∧ i = .int .i64 k ∧ v = .int .i64 (tot (ls.take k) : Int)) (fun _ i => ls.length - (intOf i).toNat)
  case atStart => exact ⟨0, Nat.zero_le _, rfl, rfl⟩
  case round =>
    obtain ⟨k, hk, rfl, rfl⟩ := hrel
    by_cases hlt : k < ls.length
    · obtain ⟨ad, a, c1, rfl, hadb, hcell, _, _⟩ := hA.at_ hlt
      obtain ⟨t1, t2⟩ := tot_take ls k hlt
      have HT := Lib.hid t1
      clear t1 hA
      generalize tot (ls.take k) = T at *
      generalize hrl : ls[k].length = L at *
      have HL := Lib.hid hrl
      clear hrl
      have g0 : decide ((T : Int) + L < 0) = false := decide_eq_false (by omega)
      go_wp2
      go_round
      case rel => exact ⟨k + 1, by omega, by go_num, by rw [HT.out]; go_num⟩
      case measure => simp [intOf]; omega
    · obtain rfl : k = ls.length := by omega
      rw [List.take_length]
      have HG := Lib.hid (grow_nil (tot ls) w hl)
      go_wp2_with fail
      refine HG.out.mono ?_
      clear HG
      rintro e w1 ⟨v, rfl, r1, b1⟩
      go_wp2
      go_loopw [6, 27] (fun v i wr => ∃ (k : Nat), k ≤ ls.length ∧ i = .int .i64 k ∧ Row w.heap.size wr v (ls.take k).flatten ∧ Below w.heap.size w wr) (fun _ i _ => ls.length - (intOf i).toNat)
      case atStart => exact ⟨0, Nat.zero_le _, rfl, r1, b1⟩
      case round =>
        clear r1 b1
        obtain ⟨k, hk, rfl, hrow, hb⟩ := hrel
        by_cases hlt : k < ls.length
        · obtain ⟨ad, a, c1, rfl, hadb, hcell, hBs, _⟩ := (hA.below hb).at_ hlt
          obtain ⟨t1, t2⟩ := tot_take ls k hlt
          have hfl := tot_flatten (ls.take k)
          have hlen : (ls.take k).flatten.length + ls[k].length ≤ 140737488355328 := by omega
          have HF := Lib.hid (show (ls.take (k + 1)).flatten = (ls.take k).flatten ++ ls[k] by rw [List.take_succ_eq_append_getElem hlt, List.flatten_append]; simp)
          have hsz := hb.size
          have HB := Lib.hid hBs
          clear t1 t2 hfl hBs hA
          generalize (ls.take k).flatten = F at *
          generalize ls[k] = row at *
          go_wp2_with (at_builtin; go_must (refine appN rfl (.tmp 31) (.tmp 32) rfl w.heap.size _ _ F rfl hrow a row c1 rfl HB.out hlen hsz ?_))
          intro v2 w2 hr2 hb2
          go_wp2
          go_roundw
          case rel => exact ⟨k + 1, by omega, by go_num, by rw [HF.out]; exact hr2, hb.trans hb2⟩
          case measure => simp [intOf]; omega
        · obtain rfl : k = ls.length := by omega
          rw [List.take_length] at hrow
          go_wp2
          go_ret
          exact ⟨_, rfl, hrow, hb⟩

/-- 'slices.Concat(x, y)' of two slices that have just been laid side by side. -/
theorem concat2 (W : World) (a1 a2 : Option Addr) (l1 l2 : List UInt8) (c1 c2 : Nat) (h1 : Bs W W.heap.size a1 l1) (h2 : Bs W W.heap.size a2 l2) (hc1 : l1.length ≤ c1) (hc2 : l2.length ≤ c2) (hl : l1.length + l2.length ≤ 140737488355328) (B : Nat) (hB : B ≤ W.heap.size) (V : World) (hV : V = W.alloc (.cells #[.slice a1 l1.length c1, .slice a2 l2.length c2] 22)) :
    Calls Try.prog 12 #[.slice (some ⟨W.heap.size, 0, none⟩) 2 2] V fun e w' => ∃ A c, e = .returned (.slice A (l1 ++ l2).length c) ∧ Bs w' w'.heap.size A (l1 ++ l2) ∧ (l1 ++ l2).length ≤ c ∧ Below B W w' := by
  subst hV
  have hm := Ms.laid2 W a1 a2 l1 l2 _ _ c1 c2 rfl rfl h1 h2 hc1 hc2 (0, 0) (W.heap.size + 1) (by omega)
  refine (concat_any (some ⟨W.heap.size, 0, none⟩) [l1, l2] 2 _ (by simpa using hm) (by simp [tot]; omega) (by simp)).mono ?_
  rintro e w' ⟨v, rfl, r, b⟩
  obtain ⟨A, c, rfl, s, hc⟩ := r.form2
  simp only [List.flatten_cons, List.flatten_nil, List.append_nil] at s hc ⊢
  refine ⟨A, c, rfl, s, hc, (((Below.refl B W).alloc hB _).trans (b.mono ?_))⟩
  simp
  omega
end Go.Proofs.Ytohpgfefdlccmaa.SConcatW
