/-
  text.Same: what it hands back, for every two byte slices. Conditions: none.
-/
import Derived.Test.YtohpgfefdlccmaaKb
import Derived.Test.YtohpgfefdlccmaaKa
import Derived.WalkKit
import Derived.BigCall
import Derived.Lib.Hide
import Derived.Outline
import Derived.Deep.DeepMust
import Derived.Deep.QuietTactic
import Derived.BigQuiet
namespace Go.Proofs.Ytohpgfefdlccmaa.TextSameW
open Go.RowKit BytesW

/-- What the bytes at each place differ by, put together. -/
def diff : List UInt8 → List UInt8 → UInt8
  | x :: r, y :: s => diff r s ||| (x ^^^ y)
  | _, _ => 0

def diffT (a b : List UInt8) (k : Nat) : UInt8 := diff (a.take k).reverse (b.take k).reverse

theorem diff_zero (a b : List UInt8) (h : a.length = b.length) : diff a b = 0 ↔ a = b := by
  induction a generalizing b with
  | nil => cases b with
    | nil => simp [diff]
    | cons y s => simp at h
  | cons x r ih => cases b with
    | nil => simp at h
    | cons y s =>
      simp only [diff, Bits.or_eq_zero, Bits.xor_eq_zero, ih s (by simpa using h), List.cons.injEq]
      exact ⟨fun ⟨a, b⟩ => ⟨b, a⟩, fun ⟨a, b⟩ => ⟨b, a⟩⟩

theorem diffT_succ (a b : List UInt8) (k : Nat) (ha : k < a.length) (hb : k < b.length) : diffT a b (k + 1) = diffT a b k ||| (a[k] ^^^ b[k]) := by
  unfold diffT
  rw [List.take_succ_eq_append_getElem ha, List.take_succ_eq_append_getElem hb]
  rw [List.reverse_append, List.reverse_append]
  rfl

theorem diffT_all (a b : List UInt8) (h : a.length = b.length) : (diffT a b a.length = 0) ↔ a = b := by
  unfold diffT
  rw [List.take_length, h, List.take_length, diff_zero _ _ (by simp [h])]
  exact List.reverse_inj

set_option maxHeartbeats 2000000 in
set_option maxRecDepth 100000 in
theorem same_any (A B : Option Addr) (a b : List UInt8) (c d : Nat) (w : World) (N M : Nat) (hA : Bs w N A a) (hB : Bs w M B b) (hl : a.length ≤ maxLen) :
    Calls Try.prog 34 #[.slice A a.length c, .slice B b.length d] w fun e w' => e = .returned (.bool (a == b)) ∧ ∃ n, w' = w.drewN n := by
  unfold maxLen at hl
  by_cases hne : a.length = b.length
  · have ht : ((a.length : Int) != (b.length : Int)) = false := by simp [hne]
    have Hne := Lib.hid hne
    clear hne
    go_enter Try.func34, Try.ntmps34
    go_wp2
    go_loopw [5, 14] (fun d i wr => ∃ k n : Nat, k ≤ a.length ∧ i = .int .i64 k ∧ d = .int .u8 ((diffT a b k).toNat : Int) ∧ wr = w.drewN n) (fun _ i _ => a.length - (intOf i).toNat)
    case atStart => exact ⟨0, 0, Nat.zero_le _, rfl, rfl, rfl⟩
    case round =>
      obtain ⟨k, n, hk, rfl, rfl, rfl⟩ := hrel
      by_cases hlt : k < a.length
      · have hlb : k < b.length := by have := Hne.out; omega
        obtain ⟨ad, rfl, _, ca⟩ := hA.at_ hlt
        obtain ⟨bd, rfl, _, cb⟩ := hB.at_ hlb
        have HD := Lib.hid (diffT_succ a b k hlt hlb)
        have HX := Lib.hid ((Bits.xor_u8 a[k] b[k]))
        have HO := Lib.hid (Bits.or_u8 (diffT a b k) (a[k] ^^^ b[k]))
        generalize a[k] = x at *
        generalize b[k] = y at *
        generalize diffT a b k = D at *
        clear hA hB
        go_wp2
        go_quiet (fail)
        rw [HX.out, HO.out]
        go_wp2
        go_roundw
        case rel => exact ⟨k + 1, _, by omega, by go_num, by rw [HD.out], rfl⟩
        case measure => simp [intOf]; omega
      · obtain rfl : k = a.length := by omega
        have hz := diffT_all a b Hne.out
        generalize diffT a b a.length = D at *
        by_cases hab : a = b
        · have hD : D = 0 := hz.2 hab
          subst hD
          have HB := Lib.hid (beq_iff_eq.2 hab)
          clear hz hab
          go_wp2
          go_ret
          rw [HB.out]
          exact ⟨rfl, _, rfl⟩
        · have hD : ((D.toNat : Int) == 0) = false := by
            rw [beq_eq_false_iff_ne]
            intro h0
            exact hab (hz.1 (by apply UInt8.toNat.inj; simp; omega))
          have HB := Lib.hid (beq_eq_false_iff_ne.2 hab)
          clear hz hab
          go_wp2
          go_ret
          rw [HB.out]
          exact ⟨rfl, _, rfl⟩
  · have ht : ((a.length : Int) != (b.length : Int)) = true := by simp; omega
    have hab : (a == b) = false := beq_eq_false_iff_ne.2 fun h => hne (by rw [h])
    rw [hab]
    go_enter Try.func34, Try.ntmps34
    go_wp2
    go_ret
    exact ⟨rfl, 0, rfl⟩

theorem same_below (A B : Option Addr) (a b : List UInt8) (c d : Nat) (w : World) (N M : Nat) (hA : Bs w N A a) (hB : Bs w M B b) (hl : a.length ≤ maxLen) :
    Calls Try.prog 34 #[.slice A a.length c, .slice B b.length d] w fun e w' => e = .returned (.bool (a == b)) ∧ Below w.heap.size w w' := by
  refine (same_any A B a b c d w N M hA hB hl).mono ?_
  rintro e w' ⟨rfl, n, rfl⟩
  exact ⟨rfl, drewN (Below.refl _ _) n⟩

end Go.Proofs.Ytohpgfefdlccmaa.TextSameW
