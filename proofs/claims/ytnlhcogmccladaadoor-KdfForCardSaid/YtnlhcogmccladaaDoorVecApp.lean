/-
  vec.validWidth and vec.appendVector: what they hand back. Conditions: in each statement.
-/
import Derived.Test.YtnlhcogmccladaaDoorKb
import Derived.Test.YtnlhcogmccladaaDoorKa
import Derived.WalkKit
import Derived.BigCall
import Derived.Lib.Hide
import Derived.Outline
import Derived.Deep.DeepMust
namespace Go.Proofs.YtnlhcogmccladaaDoor.VecAppW
open Go.RowKit BytesW

set_option maxHeartbeats 400000 in
theorem valid_yes (n : Int) (h : VecM.okW n = true) (w : World) :
    Calls Tryd.prog 41 #[.int .i64 n] w fun e w' => e = .returned (.bool true) ∧ w = w' := by
  have h' : 1 ≤ n ∧ n ≤ 3 := by simpa [VecM.okW] using h
  obtain ⟨h1, h2⟩ := h'
  clear h
  go_enter Tryd.func41, Tryd.ntmps41
  go_wp2
  go_ret
  exact ⟨rfl, rfl⟩

set_option maxHeartbeats 400000 in
theorem valid_no (n : Int) (h : VecM.okW n = false) (w : World) :
    Calls Tryd.prog 41 #[.int .i64 n] w fun e w' => e = .returned (.bool false) ∧ w = w' := by
  have h' := VecM.okW_no h
  clear h
  by_cases h1 : n < 1
  · clear h'
    go_enter Tryd.func41, Tryd.ntmps41
    go_wp2
    go_ret
    exact ⟨rfl, rfl⟩
  · have h1' : 1 ≤ n := by omega
    have h2 : decide (n ≤ 3) = false := decide_eq_false (by omega)
    clear h' h1
    go_enter Tryd.func41, Tryd.ntmps41
    go_wp2
    go_ret
    exact ⟨rfl, rfl⟩

/-- What appendVector hands back. -/
def AppPost (w : Int) (acc l : List UInt8) (B : Nat) (W : World) (e : Ending) (W' : World) : Prop :=
  ∃ v', e = .returned (.tuple #[v', .int .i64 ((VecM.put w l).1 : Int)]) ∧ Row B W' v' (if (VecM.put w l).1 = 0 then acc ++ (VecM.put w l).2 else []) ∧ Below B W W'

theorem pow_shift (m : Nat) (h : m ≤ 3) : wrap64 ((2 : Int) ^ (8 * m)) = ((256 ^ m : Nat) : Int) := by
  have : m = 0 ∨ m = 1 ∨ m = 2 ∨ m = 3 := by omega
  rcases this with rfl | rfl | rfl | rfl <;> simp [wrap64]

theorem byte_shift (L k : Nat) : (L : Int) / 2 ^ (8 * k) % 256 = ((UInt8.ofNat (L / 256 ^ k)).toNat : Int) := by
  rw [UInt8.toNat_ofNat']
  have : ((2 : Int) ^ 8) ^ k = ((256 ^ k : Nat) : Int) := by simp
  rw [Int.pow_mul, this]
  omega

theorem be_take (m L k : Nat) (h : k < m) : (VecM.be m L).take (m - (k + 1)) ++ [UInt8.ofNat (L / 256 ^ k)] = (VecM.be m L).take (m - k) := by
  induction m with
  | zero => omega
  | succ m ih =>
    rw [VecM.be_cons]
    by_cases hk : k = m
    · subst hk; simp
    · have := ih (by omega)
      rw [show m + 1 - (k + 1) = (m - (k + 1)) + 1 from by omega, show m + 1 - k = (m - k) + 1 from by omega, List.take_succ_cons, List.take_succ_cons, List.cons_append, this]

set_option maxHeartbeats 4000000 in
set_option maxRecDepth 100000 in
theorem append_any (n : Int) (v : Value) (acc l : List UInt8) (A : Option Addr) (c B : Nat) (w : World) (hrow : Row B w v acc) (hA : Bs w B A l) (hlen : acc.length + l.length + 3 ≤ 140737488355328) (hB : B ≤ w.heap.size) :
    Calls Tryd.prog 33 #[v, .int .i64 n, .slice A l.length c] w (AppPost n acc l B w) := by
  by_cases hok : VecM.okW n = false
  · have hp := VecM.put_range l hok
    unfold AppPost
    rw [hp]
    have hb := Below.refl B w
    clear hp
    go_enter Tryd.func33, Tryd.ntmps33
    go_wp2_with fail
    refine (valid_no n hok w).mono ?_
    rintro e w' ⟨rfl, rfl⟩
    go_wp2
    go_ret2
    exact ⟨_, rfl, Row.nil _ _, hb⟩
  · have hok : VecM.okW n = true := by simpa using hok
    have h' : 1 ≤ n ∧ n ≤ 3 := by simpa [VecM.okW] using hok
    obtain ⟨h1, h3⟩ := h'
    obtain ⟨m, rfl⟩ : ∃ m : Nat, n = m := ⟨n.toNat, by omega⟩
    have hE := pow_shift m (by omega)
    have hm3 : m ≤ 3 := by omega
    have hpl := VecM.pow_le hok
    rw [Int.toNat_natCast] at hpl
    unfold AppPost
    by_cases hf : 256 ^ m ≤ l.length
    · rw [VecM.put_full hok (by rw [Int.toNat_natCast]; exact hf)]
      generalize 256 ^ m = p at *
      go_enter Tryd.func33, Tryd.ntmps33
      go_wp2_with fail
      refine (valid_yes _ hok w).mono ?_
      rintro e w' ⟨rfl, rfl⟩
      clear hok
      go_wp2
      go_ret2
      exact ⟨_, rfl, Row.nil _ _, Below.refl _ _⟩
    · have hf : l.length < 256 ^ m := by omega
      rw [VecM.put_ok hok (by rw [Int.toNat_natCast]; exact hf), Int.toNat_natCast]
      have hbl := VecM.be_length m l.length
      have BT := Lib.hid (be_take m l.length)
      generalize 256 ^ m = p at *
      have hL : l.length < 16777216 := by omega
      generalize VecM.be m l.length = D at *
      have HD := Lib.hid hbl
      clear hbl
      go_enter Tryd.func33, Tryd.ntmps33
      go_wp2_with fail
      refine (valid_yes _ hok w).mono ?_
      rintro e w' ⟨rfl, rfl⟩
      clear hok
      go_wp2
      clear hE hpl hf
      go_loopw [0, 8] (fun v i wr => ∃ (j : Nat) (ix : Int), j ≤ m ∧ ix = (j : Int) - 1 ∧ i = .int .i64 ix ∧ Row B wr v (acc ++ D.take (m - j)) ∧ Below B w wr) (fun _ i _ => (intOf i + 1).toNat)
      case atStart => exact ⟨m, _, Nat.le_refl _, rfl, rfl, by simpa using hrow, Below.refl _ _⟩
      case round =>
        clear hrow
        obtain ⟨j, ix, hj, hix, rfl, hrow, hb⟩ := hrel
        cases j with
        | zero =>
          have hi : ix = -1 := by omega
          subst hi
          have hD : D.take (m - 0) = D := by rw [Nat.sub_zero, ← HD.out, List.take_length]
          rw [hD] at hrow
          clear hD hix
          have hA' := Lib.hid (hA.below hb)
          have hacc : (acc ++ D).length + l.length ≤ 140737488355328 := by rw [List.length_append, HD.out]; omega
          have hBs := Nat.le_trans hB hb.size
          go_wp2_with (at_builtin; go_must (refine appN rfl (.tmp 33) (.tmp 34) rfl B B _ (acc ++ D) rfl hrow A l c rfl hA'.out hacc hBs ?_))
          intro v' w' hrow' hb'
          go_wp2
          go_ret2
          exact ⟨_, rfl, by simpa using hrow', hb.trans hb'⟩
        | succ k =>
          have hi : ix = (k : Int) := by omega
          subst hi
          clear hix
          have hkm := hj
          have hnew := new1 wr ((l.length : Int) / 2 ^ (8 * k) % 256) (UInt8.ofNat (l.length / 256 ^ k)) (byte_shift l.length k)
          have hl1 : (acc ++ D.take (m - (k + 1))).length + 1 ≤ 140737488355328 := by rw [List.length_append, List.length_take, HD.out]; omega
          have hBs := Nat.le_trans hB hb.size
          go_wp2_with (at_builtin; go_must (refine app1 rfl (.tmp 24) (.tmp 31) rfl B _ (acc ++ D.take (m - (k + 1))) rfl (hrow.alloc _) ⟨wr.heap.size, 0, none⟩ 1 (UInt8.ofNat (l.length / 256 ^ k)) rfl hnew hl1 (by simp; omega) ?_))
          intro v' w' hrow' hb'
          clear hnew
          go_wp2
          go_roundw
          case rel => exact ⟨k, _, by omega, rfl, rfl, by rw [← BT.out k hkm, ← List.append_assoc]; simpa using hrow', (hb.alloc hBs _).trans hb'⟩
          case measure => simp [intOf]
end Go.Proofs.YtnlhcogmccladaaDoor.VecAppW
