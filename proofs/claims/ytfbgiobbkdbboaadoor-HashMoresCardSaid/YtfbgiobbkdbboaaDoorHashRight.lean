/-
  hash.Begin, hash.Right: what they hand back. Conditions: in each statement.
-/
import Derived.Test.YtfbgiobbkdbboaaDoorHashX
import Derived.Test.YtfbgiobbkdbboaaDoorArrY
import Derived.Test.YtfbgiobbkdbboaaDoorHashTurn
import Derived.Deep.DeepCutAuto
namespace Go.Proofs.YtfbgiobbkdbboaaDoor.HashRightW
open Go.RowKit BytesW WordsW ArrW HashM HashX

/-- The cells of a state, the length and the rest of a message. -/
def hc (S : List Nat) (long : Int) (v : Value) : List Value := wc S ++ [.int .i64 long, v]
theorem hc_len (S : List Nat) (long : Int) (v : Value) (h : S.length = 8) : (hc S long v).length = 10 := by simp [hc, wc_length, h]
theorem hc_one (S : List Nat) (long : Int) (A : Option Addr) (n c : Nat) : ∀ x ∈ hc S long (.slice A n c), x.oneCell' = true := by
  intro x hx
  rcases List.mem_append.1 hx with h | h
  · exact wc_one S x h
  · simp at h
    rcases h with rfl | rfl <;> rfl
theorem hc_8 (S : List Nat) (long : Int) (v : Value) (h : S.length = 8) : (hc S long v)[8]? = some (.int .i64 long) := by
  unfold hc
  rw [List.getElem?_append_right (by rw [wc_length]; omega), wc_length, h]
  rfl
theorem hc_9 (S : List Nat) (long : Int) (v : Value) (h : S.length = 8) : (hc S long v)[9]? = some v := by
  unfold hc
  rw [List.getElem?_append_right (by rw [wc_length]; omega), wc_length, h]
  rfl
theorem struct_of {P : Program} {t : TypeId} (h : (match P.underlying t with | some (.struct _) => true | _ => false) = true) : ∃ fs, P.underlying t = some (.struct fs) := by
  cases e : P.underlying t with
  | none => rw [e] at h; cases h
  | some d => cases d <;> simp_all
theorem hash_struct : ∃ fs, Tryd.prog.underlying 27 = some (.struct fs) := struct_of (by kernel_rfl)
theorem hash_size : (Tryd.prog.info? 27).map (·.size) = some 10 := by kernel_rfl
/-- Is it valid? -/
def okH (long : Int) (n : Nat) : Bool := decide (0 ≤ long ∧ long ≤ 1099511627776 ∧ (n : Int) = long % 64)

set_option maxHeartbeats 4000000 in
set_option maxRecDepth 100000 in
theorem begin_any (w : World) :
    Calls Tryd.prog 9 #[] w fun e w' => e = .returned (.agg (hc IV 0 (.slice none 0 0)).toArray) ∧ Below w.heap.size w w' := by
  go_enter Tryd.func9, Tryd.ntmps9
  obtain ⟨fs, u27⟩ := hash_struct
  have I := Lib.hid hash_size
  have N := Lib.hid (hc_len IV 0 (.slice none 0 0) rfl)
  go_upto_region 1 with (fail)
  go_wp2_with (refine Arr.storeL (Arr.new w _ _) rfl 27 (.tmp 0) (.tmp 2) rfl rfl (hc IV 0 (.slice none 0 0)) rfl I.out (by rfl) N.out (hc_one _ _ _ _ _) ?_)
  generalize hw3 : World.setRow _ _ _ = w3
  obtain ⟨a2, hb3, hs3⟩ := filled hw3
  refine bodyPost_ret (v := .agg (hc IV 0 (.slice none 0 0)).toArray) (by exact a2.ret rfl _ rfl u27 rfl I.out N.out) rfl ⟨rfl, hb3⟩

set_option maxHeartbeats 4000000 in
set_option maxRecDepth 100000 in
theorem right_any (S : List Nat) (hS : Sm S) (long : Int) (A : Option Addr) (n c : Nat) (w : World) (h1 : -9223372036854775808 ≤ long) (h2 : long < 9223372036854775808) :
    Calls Tryd.prog 16 #[.agg (hc S long (.slice A n c)).toArray] w fun e w' => e = .returned (.bool (okH long n)) ∧ Below w.heap.size w w' := by
  go_enter Tryd.func16, Tryd.ntmps16
  go_upto_region 1 with (fail)
  generalize hW : World.alloc _ _ = W
  obtain ⟨H0, hbw, hsz⟩ := start1 hW
  clear hW
  have a0 : Arr W w.heap.size 27 (hc S long (.slice A n c)) := H0
  have c8 := a0.cell 8
  rw [hc_8 S long _ hS.1] at c8
  have c9 := a0.cell 9
  rw [hc_9 S long _ hS.1] at c9
  have HB := Lib.hid hbw
  clear a0 H0 hbw hsz
  by_cases p1 : 0 ≤ long
  · obtain ⟨L, rfl⟩ : ∃ L : Nat, long = (L : Int) := ⟨long.toNat, by omega⟩
    by_cases p2 : (L : Int) ≤ 1099511627776
    · have q2 : decide ((L : Int) ≤ 1099511627776) = true := decide_eq_true p2
      by_cases p3 : (n : Int) = (L : Int) % 64
      · have HR := Lib.hid (show okH (L : Int) n = true from decide_eq_true ⟨p1, p2, p3⟩)
        have q3 : ((n : Int) == (L : Int) % 64) = true := beq_iff_eq.2 p3
        clear p1 p3
        go_wp2
        go_ret
        exact ⟨by rw [HR.out]; rfl, HB.out⟩
      · have HR := Lib.hid (show okH (L : Int) n = false from decide_eq_false (fun h => p3 h.2.2))
        have q3 : ((n : Int) == (L : Int) % 64) = false := beq_eq_false_iff_ne.2 p3
        clear p1 p3
        go_wp2
        go_ret
        exact ⟨by rw [HR.out]; rfl, HB.out⟩
    · have q2 : decide ((L : Int) ≤ 1099511627776) = false := decide_eq_false p2
      have HR := Lib.hid (show okH (L : Int) n = false from decide_eq_false (fun h => p2 h.2.1))
      clear p1
      go_wp2
      go_ret
      exact ⟨by rw [HR.out]; rfl, HB.out⟩
  · have q1 : decide (0 ≤ long) = false := decide_eq_false p1
    have HR := Lib.hid (show okH long n = false from decide_eq_false (fun h => p1 h.1))
    clear p1
    go_wp2
    go_ret
    exact ⟨by rw [HR.out]; rfl, HB.out⟩
end Go.Proofs.YtfbgiobbkdbboaaDoor.HashRightW
