/-
  vec.split: what it hands back, for every width and slice. Conditions: in each statement.
-/
import Derived.Test.YtgicbjpeagmfcaaVecApp
import Derived.Test.YtgicbjpeagmfcaaBits
import Derived.RegionTactic
import Derived.ChangeAlike
import Derived.Deep.QuietTactic
import Derived.BigQuiet
namespace Go.Proofs.Ytgicbjpeagmfcaa.VecSplitW
open Go.RowKit BytesW VecAppW

theorem shl8 (V : Nat) (x : UInt8) (h : V < 65536) : bits .or .i64 ((V : Int) * 256) (x.toNat : Int) = ((V * 256 + x.toNat : Nat) : Int) := by
  have hx := x.toNat_lt
  have hw : ∀ n : Int, 0 ≤ n → n < 2 ^ 62 → IntKind.i64.wrap n = n := fun n h0 h1 => by rw [IntKind.wrap_i64]; omega
  have h := bits_join .i64 62 (by decide) hw 8 ((V : Int) * 256) (x.toNat : Int) (by omega) (by omega) (by omega) (by omega) (by omega) (by omega)
  rw [h]; omega

/-- What split hands back. -/
def SplitPost (n : Int) (l : List UInt8) (B : Nat) (w : World) (e : Ending) (w' : World) : Prop :=
  ∃ A1 c1 A2 c2, e = .returned (.tuple #[.slice A1 (VecM.take n l).2.1.length c1, .slice A2 (VecM.take n l).2.2.length c2, .int .i64 ((VecM.take n l).1 : Int)]) ∧
    Bs w' B A1 (VecM.take n l).2.1 ∧ (VecM.take n l).2.1.length ≤ c1 ∧ Bs w' B A2 (VecM.take n l).2.2 ∧ (VecM.take n l).2.2.length ≤ c2 ∧ Below w.heap.size w w'

theorem split_none {n : Int} {l : List UInt8} {B e : Nat} {w : World} (h : VecM.take n l = (e, [], [])) (b : Ending) (hb : b = .returned (.tuple #[.slice none 0 0, .slice none 0 0, .int .i64 (e : Int)])) : SplitPost n l B w b w := by
  unfold SplitPost
  rw [h]
  exact ⟨none, 0, none, 0, hb, Bs.nil _ _ _, Nat.le_refl _, Bs.nil _ _ _, Nat.le_refl _, Below.refl _ _⟩

theorem split_yes {n : Int} {l d : List UInt8} {B V c1 c2 : Nat} {A1 A2 : Option Addr} {w w' : World} (h : VecM.take n l = (0, d.take V, d.drop V)) (h1 : Bs w' B A1 (d.take V)) (h2 : Bs w' B A2 (d.drop V)) (hV : V ≤ d.length)
    (hc1 : V ≤ c1) (hc2 : d.length - V ≤ c2) (b : Ending) (hb : b = .returned (.tuple #[.slice A1 V c1, .slice A2 (d.length - V) c2, .int .i64 0])) (hbe : Below w.heap.size w w') : SplitPost n l B w b w' := by
  unfold SplitPost
  rw [h]
  have e1 : (d.take V).length = V := by rw [List.length_take]; omega
  have e2 : (d.drop V).length = d.length - V := List.length_drop
  exact ⟨A1, c1, A2, c2, by rw [e1, e2]; exact hb, h1, by rw [e1]; exact hc1, h2, by rw [e2]; exact hc2, hbe⟩

theorem snoc_val (l : List UInt8) (k : Nat) (h : k < l.length) : VecM.val (l.take (k + 1)) = VecM.val (l.take k) * 256 + (l[k]).toNat := by
  rw [List.take_succ_eq_append_getElem h, VecM.val_snoc]

theorem val_small (l : List UInt8) (k : Nat) (h : k ≤ 2) : VecM.val (l.take k) < 65536 := by
  have := VecM.val_lt (l.take k)
  have h2 : (l.take k).length ≤ 2 := by rw [List.length_take]; omega
  have : 256 ^ (l.take k).length ≤ 256 ^ 2 := Nat.pow_le_pow_right (by decide) h2
  omega

theorem val_small3 (l : List UInt8) (k : Nat) (h : k ≤ 3) : VecM.val (l.take k) < 16777216 := by
  have := VecM.val_lt (l.take k)
  have h2 : (l.take k).length ≤ 3 := by rw [List.length_take]; omega
  have : 256 ^ (l.take k).length ≤ 256 ^ 3 := Nat.pow_le_pow_right (by decide) h2
  omega

set_option maxHeartbeats 4000000 in
set_option maxRecDepth 100000 in
theorem split_any (n : Int) (l : List UInt8) (A : Option Addr) (c B : Nat) (w : World) (hA : Bs w B A l) (hc : l.length ≤ c) :
    Calls Try.prog 26 #[.int .i64 n, .slice A l.length c] w (SplitPost n l B w) := by
  by_cases hok : VecM.okW n = false
  · have hp := Lib.hid (VecM.take_range l hok)
    go_enter Try.func26, Try.ntmps26
    go_wp2_with fail
    refine (valid_no n hok w).mono ?_
    rintro e w' ⟨rfl, rfl⟩
    go_wp2
    go_ret3
    exact split_none hp.out _ rfl
  · have hok : VecM.okW n = true := by simpa using hok
    have h' : 1 ≤ n ∧ n ≤ 3 := by simpa [VecM.okW] using hok
    obtain ⟨h1, h3⟩ := h'
    obtain ⟨m, rfl⟩ : ∃ m : Nat, n = m := ⟨n.toNat, by omega⟩
    by_cases hs : l.length < m
    · have hp := Lib.hid (VecM.take_short (l := l) hok (by rw [Int.toNat_natCast]; exact hs))
      go_enter Try.func26, Try.ntmps26
      go_wp2_with fail
      refine (valid_yes _ hok w).mono ?_
      rintro e w' ⟨rfl, rfl⟩
      clear hok
      go_wp2
      go_ret3
      exact split_none hp.out _ rfl
    · have hs' : m ≤ l.length := by omega
      clear hs
      have hmc : m ≤ c := by omega
      have HC := Lib.hid (VecM.take_cases m l)
      have HT1 := Lib.hid (fun h => VecM.take_short2 (w := m) (l := l) hok (by rw [Int.toNat_natCast]; exact hs') (by rw [Int.toNat_natCast]; exact h))
      have HT2 := Lib.hid (fun h => VecM.take_ok (w := m) (l := l) hok (by rw [Int.toNat_natCast]; exact hs') (by rw [Int.toNat_natCast]; exact h))
      obtain ⟨A', hA'⟩ : ∃ A', (if c = m then A else A.map (·.add m)) = A' := ⟨_, rfl⟩
      have hB2 := hA.cut m c hc
      rw [hA'] at hB2
      have HB2 := Lib.hid hB2
      clear hB2
      have hld : (l.drop m).length = l.length - m := List.length_drop
      have HLD := Lib.hid hld
      clear hld
      go_enter Try.func26, Try.ntmps26
      go_wp2_with fail
      refine (valid_yes _ hok w).mono ?_
      rintro e w' ⟨rfl, rfl⟩
      clear hok
      go_wp2
      go_loop [7, 21] (fun v i => ∃ k : Nat, k ≤ m ∧ i = .int .i64 k ∧ v = .int .i64 (VecM.val (l.take k) : Int)) (fun _ i => m - (intOf i).toNat)
      case atStart => exact ⟨0, Nat.zero_le _, rfl, rfl⟩
      case round =>
        obtain ⟨k, hk, rfl, rfl⟩ := hrel
        by_cases hlt : k < m
        · have hv := val_small l k (by omega)
          have HV := Lib.hid (snoc_val l k (by omega))
          obtain ⟨ad, rfl, hadb, hcell⟩ := hA.at_ (k := k) (by omega)
          generalize VecM.val (l.take k) = V at *
          have hor := shl8 V l[k] hv
          have hx := l[k].toNat_lt
          clear hA'
          go_wp2
          go_round
          case rel => exact ⟨k + 1, by omega, by go_num, by rw [HV.out]; go_num⟩
          case measure => simp [intOf]; omega
        · obtain rfl : m = k := by omega
          have hv := val_small3 l m (by omega)
          rw [Int.toNat_natCast] at HT2
          have hd0 := HLD.out
          by_cases hf : l.length < m + VecM.val (l.take m)
          · have Hp := Lib.hid (HT1.out hf)
            generalize VecM.val (l.take m) = V at *
            have hf' : (l.length : Int) - m < V := by omega
            clear HT1 HT2 HC hA hd0 hf
            go_wp2
            go_ret3
            exact split_none Hp.out _ rfl
          · have Hp := Lib.hid (HT2.out (by omega))
            generalize VecM.val (l.take m) = V at *
            have hf' : (V : Int) ≤ l.length - m := by omega
            clear HT1 HT2 HC hA hd0 hf
            obtain ⟨A2, hA2⟩ : ∃ A2, (if c - m = V then A' else A'.map (·.add V)) = A2 := ⟨_, rfl⟩
            have hB3 := HB2.out.cut V (c - m) (by rw [HLD.out]; omega)
            rw [hA2] at hB3
            have HB3 := Lib.hid hB3
            clear hB3
            have hV2 : (V : Int) ≤ ((c - m : Nat) : Int) := by omega
            have hV3 : (V : Int) ≤ ((l.length - m : Nat) : Int) := by omega
            go_wp2
            go_quiet (fail)
            go_wp2
            go_ret3
            exact split_yes (c1 := c - m) (c2 := c - m - V) Hp.out (by exact HB2.out.take V) (by exact HB3.out) (by rw [HLD.out]; omega) (by omega) (by rw [HLD.out]; omega) _ (by rw [HLD.out]; rfl) (drewN (Below.refl _ _) _)
end Go.Proofs.Ytgicbjpeagmfcaa.VecSplitW
