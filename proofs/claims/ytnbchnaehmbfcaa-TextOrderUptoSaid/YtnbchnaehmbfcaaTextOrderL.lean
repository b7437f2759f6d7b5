/-
  The walk of ticketwardkeep.TextOrder: it returns true and writes nothing that was there. Conditions: the slices have at most 1048576 bytes.
-/
import Derived.Test.YtnbchnaehmbfcaaTextAlive
import Derived.Test.YtnbchnaehmbfcaaTextO
import Derived.Deep.RegionWith
namespace Go.Proofs.Ytnbchnaehmbfcaa.TextOrderL
open Go.RowKit BytesW

/-- text.Hex in whatever world the slice still lies. -/
theorem hexIn (A : Option Addr) (l : List UInt8) (c : Nat) (w W : World) (hA : Bs w w.heap.size A l) (hl : l.length ≤ 1048576) (hb : Below w.heap.size w W) :
    Calls Try.prog 12 #[.slice A l.length c] W fun e w' => e = .returned (.string ⟨(TextM.hex l).toArray⟩) ∧ Below w.heap.size w w' := by
  refine (TextHexW.hex_any A l c W ((hA.below hb).more hb.size) (by omega)).mono ?_
  rintro e w' ⟨rfl, b⟩
  exact ⟨rfl, hb.trans (b.mono hb.size)⟩

theorem same_bool (t : Bool) : Ending.returned (.bool (t == t)) = Ending.returned (.bool true) := by cases t <;> rfl

set_option maxHeartbeats 4000000 in
set_option maxRecDepth 100000 in
theorem walk (a : Option Addr) (la : List UInt8) (ca : Nat) (b : Option Addr) (lb : List UInt8) (cb : Nat) (w : World) (hA : Bs w w.heap.size a la) (_ : la.length ≤ ca) (hla : la.length ≤ 1048576) (hB : Bs w w.heap.size b lb) (_ : lb.length ≤ cb) (hlb : lb.length ≤ 1048576) :
    Calls Try.prog 9 #[.slice a la.length ca, .slice b lb.length cb] w fun e w' => e = .returned (.bool true) ∧ Below w.heap.size w w' := by
  have HA := Lib.hid fun W hb => hexIn a la ca w W hA hla hb
  have HB := Lib.hid fun W hb => hexIn b lb cb w W hB hlb hb
  have CA := Lib.hid fun (W : World) (hb : Below w.heap.size w W) => (hA.below hb).conv ca
  have CB := Lib.hid fun (W : World) (hb : Below w.heap.size w W) => (hB.below hb).conv cb
  have HO := Lib.hid (TextM.hex_less la lb)
  clear hA hB hla hlb
  go_enter Try.func9, Try.ntmps9
  go_wp2_with fail
  refine (TextAlive.alive_any w).mono ?_
  rintro e w1 ⟨rfl, b1⟩
  have b1d := b1.drew
  have k1 := CA.out w1.drew b1d
  have k2 := CB.out w1.drew b1d
  go_wp2_with fail
  go_region_with (first
    | (go_at_call_of 12 a; refine (HA.out _ ?_).mono ?_; assumption; rintro e W ⟨rfl, hb⟩; have q1 := CA.out W hb; have q2 := CB.out W hb)
    | (go_at_call_of 12 b; refine (HB.out _ ?_).mono ?_; assumption; rintro e W ⟨rfl, hb⟩; have q1 := CA.out W hb; have q2 := CB.out W hb))
  all_goals (go_wp2; go_ret; refine ⟨?_, by assumption⟩; rw [HO.out]; exact same_bool _)
end Go.Proofs.Ytnbchnaehmbfcaa.TextOrderL
