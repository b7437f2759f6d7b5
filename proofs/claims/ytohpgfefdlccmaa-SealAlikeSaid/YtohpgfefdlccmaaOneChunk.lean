/-
  slices.Chunk of bytes by 16: what it hands back; a range over it: block after block. Conditions: a length that fits.
-/
import Derived.Test.YtohpgfefdlccmaaKi
import Derived.Test.YtohpgfefdlccmaaRoundW
import Derived.RangeFuncNested
import Derived.RangeFuncBound
import Derived.RangeFuncCalls
import Derived.RangeFuncLeaves
import Derived.OwnWalkIn
import Derived.TacticsInMore
import Derived.LoopNIn
import Derived.LoopIn
namespace Go.Proofs.Ytohpgfefdlccmaa.OneWW
open Go.RowKit BytesW ArrW ArrG ArrL OneM OneN OneR OneA16

/-- A block's number. -/
abbrev Ix (b : List UInt8) := { i : Nat // 16 * i < b.length }
/-- .. and its slice. -/
def piece (A : Option Addr) (b : List UInt8) (x : Ix b) : Array Value := #[.slice (A.map (·.add (16 * x.1))) (min 16 (b.length - 16 * x.1)) (min 16 (b.length - 16 * x.1))]
/-- Two variables keep what they hold. -/
def Kc (gs gn : Nat) (W W' : World) : Prop := W'.cell? ⟨gs, 0, none⟩ = W.cell? ⟨gs, 0, none⟩ ∧ W'.cell? ⟨gn, 0, none⟩ = W.cell? ⟨gn, 0, none⟩

set_option maxHeartbeats 1000000 in
theorem chunk_any (A : Option Addr) (len cap : Nat) (w : World) :
    Calls Try.prog 39 #[.slice A len cap, .int .i64 16] w fun e w' => e = .returned (.func (.func 51) #[] #[.pointer (some ⟨w.heap.size, 0, none⟩), .pointer (some ⟨w.heap.size + 1, 0, none⟩)]) ∧ w' = (w.alloc (.cells #[.slice A len cap] 22)).alloc (.cells #[.int .i64 16] 3) := by
  go_enter Try.func39, Try.ntmps39
  go_wp2
  go_ret
  exact ⟨rfl, rfl⟩

set_option maxHeartbeats 4000000 in
set_option maxRecDepth 100000 in
theorem chunk_stops (n : Nat) (A : Option Addr) (b : List UInt8) (cap : Nat) (hb : b.length ≤ 140737488351232) (hc : b.length ≤ cap) (hA : 0 < b.length → ∃ ad, A = some ad) (gs gn : Nat) (w : World)
    (hgs : w.cell? ⟨gs, 0, none⟩ = some (.slice A b.length cap)) (hgn : w.cell? ⟨gn, 0, none⟩ = some (.int .i64 16)) (hls : gs < w.heap.size) (hln : gn < w.heap.size) :
    SeqStopsK Fence.wide n Try.prog 51 #[.pointer (some ⟨gs, 0, none⟩), .pointer (some ⟨gn, 0, none⟩)] (piece A b) (Kc gs gn) (fun xs => xs.map Subtype.val = List.range ((b.length + 15) / 16)) (fun _ => True) ((b.length + 15) / 16) w := fun l J Jx W hW hJa _ hY h0 => by
  have CS := Lib.hid ((hW.cell (p := ⟨gs, 0, none⟩) hls).trans hgs)
  have CN := Lib.hid ((hW.cell (p := ⟨gn, 0, none⟩) hln).trans hgn)
  have HY := Lib.hid hY
  have HA := Lib.hid hA
  have HJ : Hid (∀ s (V : World), J s V → J s V.drew) := Lib.hid (fun s V h => hJa s V V.drew none h (grownDrew V none) (fun r e => by cases e))
  clear hgs hgn hY hA hW hJa hls hln
  refine callsIn_of_wp Try.func51 rfl trivial ?_ rfl
  refine wpIn_wide.2 ?_
  simp only [Try.ntmps51, List.size_toArray, List.length_cons, List.length_nil, Nat.reduceAdd, Nat.reduceSub, Array.replicate_succ, Array.replicate_zero, List.push_toArray, List.append_toArray, List.nil_append, List.cons_append]
  go_wp2
  go_loopw [4] (fun vi wr => ∃ (k : Nat) (pre : List (Ix b)), k ≤ (b.length + 15) / 16 ∧ vi = .int .i64 ((16 * k : Nat) : Int) ∧ pre.map Subtype.val = List.range k ∧ J pre wr ∧ wr.cell? ⟨gs, 0, none⟩ = some (.slice A b.length cap) ∧ wr.cell? ⟨gn, 0, none⟩ = some (.int .i64 16)) (fun vi _ => b.length + 16 - (intOf vi).toNat)
  case atStart => exact ⟨0, [], by omega, rfl, rfl, h0, CS.out, CN.out⟩
  case round =>
    clear CS CN h0
    obtain ⟨k, pre, hk, rfl, hp, hj, cs, cn⟩ := hrel
    obtain ⟨i, hi⟩ : ∃ i, 16 * k = i := ⟨_, rfl⟩
    rw [hi]
    by_cases hlt : i < b.length
    · have ct : decide ((i : Int) < (b.length : Int)) = true := decide_eq_true (by omega)
      obtain ⟨ad, rfl⟩ := HA.out (by omega)
      obtain ⟨ℓ, hℓ⟩ : ∃ ℓ, b.length - i = ℓ := ⟨_, rfl⟩
      obtain ⟨m, hm⟩ : ∃ m, min 16 ℓ = m := ⟨_, rfl⟩
      have hif : (if (ℓ : Int) < 16 then (ℓ : Int) else 16) = (m : Int) := by split <;> omega
      have i1 : (i : Int) ≤ (b.length : Int) := by omega
      have hJ1 := HJ.out _ _ hj
      go_upto_region 3 with (fail)
      refine Phase.wp_region_phases [([], [0, 1, 2, 3, 4, 5, 6], none)] (fun W => W = wr.drew) (by kernel_rfl) (by kernel_rfl) (fun _ _ d _ _ h => by cases d <;> exact h) rfl ?_
      refine Phase.g_quiet ?_
      refine Phase.p_nil ?_
      iterate 7 (refine Phase.q_step rfl (fun K hK => ?_); go_simp; refine hK _ ?_; clear hK K)
      refine Phase.q_nil ?_
      refine Phase.g_nil ?_
      intro wz hz
      rw [show wz = wr.drew from hz]
      clear hz hif hj
      have hkN : k < (b.length + 15) / 16 := by omega
      obtain ⟨x, hx⟩ : ∃ x : Ix b, x.1 = k := ⟨⟨k, by omega⟩, rfl⟩
      have HXk := Lib.hid hx
      obtain ⟨fn, tmps, assign, body, hy, hR⟩ := HY.out pre x wr.drew hJ1 (by rw [← List.length_map (f := Subtype.val), hp, List.length_range]; exact hkN)
      have hy2 : (Instr.yield l #[.slice (some (ad.add i)) m m]).run Try.prog wr.drew = .ok (.round l fn tmps assign body) wr.drew := by
        have h := hy
        unfold piece at h
        simp only [Option.map_some] at h
        rw [hx, hi, hℓ, hm] at h
        exact h
      have HR := Lib.hid hR
      obtain ⟨p, hpe⟩ : ∃ p, i + m = p := ⟨_, rfl⟩
      have hpl : p ≤ b.length := by omega
      have hpc : p ≤ cap := by omega
      have wp : IntKind.i64.wrap ((i : Int) + (m : Int)) = (p : Int) := by rw [IntWalk.i64_in _ (by omega)]; omega
      have cs1 : wr.drew.cell? ⟨gs, 0, none⟩ = some (.slice (some ad) b.length cap) := cs
      have cn1 : wr.drew.cell? ⟨gn, 0, none⟩ = some (.int .i64 16) := cn
      have pi1 : (p : Int) - (i : Int) = (m : Int) := by omega
      have hpi : p - i = m := by omega
      have hne : ¬ p = i := by omega
      have hip : i ≤ p := by omega
      have hci : ¬ cap = i := by omega
      obtain ⟨W2, hW2⟩ : ∃ W2, wr.drew = W2 := ⟨_, rfl⟩
      rw [hW2] at cs1 cn1 hy2 HR hJ1 ⊢
      clear hy hR cs cn hW2 hpe hm hx
      go_upto_region 4 with (fail)
      refine (wpIn_wide (n := n)).1 ?_
      gi_wp2
      refine ⟨fun h => (by cases h), ?_⟩
      refine HR.out.mono ?_
      clear HR hy2
      rintro e W3 (⟨rfl, hJ3, hk3⟩ | ⟨rfl, hJx3⟩)
      · have cs3 := hk3.1.trans cs1
        have cn3 := hk3.2.trans cn1
        have hi3 : i + 16 = 16 * (k + 1) := by omega
        have HI3 := Lib.hid hi3
        have HP := Lib.hid hp
        have HJ3 := Lib.hid hJ3
        have HI := Lib.hid hi
        clear hk3 hi3 hp hJ3 hi cs1 cn1 hJ1 hkN hk
        gi_wp2
        go_wp2
        go_roundw
        case rel => exact ⟨k + 1, pre ++ [x], by have := HI.out; omega, by rw [← HI3.out]; go_num, by rw [List.map_append, HP.out, List.range_succ, List.map_singleton, HXk.out], HJ3.out, cs3, cn3⟩
        case measure => simp [intOf]; omega
      · have HX := Lib.hid hJx3
        clear hJx3
        gi_wp2
        go_wp2
        refine bodyPost_ret (results_none rfl _ _ _) rfl ?_
        exact ⟨⟨_, rfl⟩, .inr ⟨_, trivial, HX.out⟩⟩
    · have ct : decide ((i : Int) < (b.length : Int)) = false := decide_eq_false (by omega)
      have hkN : k = (b.length + 15) / 16 := by omega
      have HP := Lib.hid hp
      have HK := Lib.hid hkN
      have HJ2 := Lib.hid hj
      clear hp hkN hj hi hk
      go_wp2
      go_end0
      exact ⟨⟨_, rfl⟩, .inl ⟨pre, by rw [HP.out, HK.out], HJ2.out⟩⟩
end Go.Proofs.Ytohpgfefdlccmaa.OneWW
