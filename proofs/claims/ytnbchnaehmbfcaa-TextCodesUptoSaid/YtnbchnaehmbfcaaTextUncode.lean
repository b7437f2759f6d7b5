/-
  text.Uncode: what it hands back, for every string. Conditions: none.
-/
import Derived.Test.YtnbchnaehmbfcaaTextGroup
namespace Go.Proofs.Ytnbchnaehmbfcaa.TextUncodeW
open Go.RowKit BytesW TextGroupW

/-- The length of a string's value. -/
def strLen : Value → Nat
  | .string b => b.size
  | _ => 0

theorem b0 (V : Nat) (h : V < 16777216) : (V : Int) / 65536 = ((UInt8.ofNat (V / 65536)).toNat : Int) := by simp; omega
theorem b1 (V : Nat) : (V : Int) / 256 % 256 = ((UInt8.ofNat (V / 256)).toNat : Int) := by simp
theorem b2 (V : Nat) : (V : Int) % 256 = ((UInt8.ofNat V).toNat : Int) := by simp

set_option maxHeartbeats 4000000 in
set_option maxRecDepth 100000 in
theorem uncode_any (l : List UInt8) (w : World) (hs : l.length ≤ maxLen) :
    Calls Try.prog 15 #[.string ⟨l.toArray⟩] w fun e w' => ∃ v, e = .returned (.tuple #[v, .int .i64 ((TextN.uncode l).1 : Int)]) ∧
      Row w.heap.size w' v (TextN.uncode l).2 ∧ Below w.heap.size w w' := by
  unfold maxLen at hs
  by_cases hbig : 32768 < l.length
  · have hu : TextN.uncode l = (2, []) := if_pos hbig
    rw [hu]
    clear hu
    go_enter Try.func15, Try.ntmps15
    go_wp2
    go_ret2
    exact ⟨_, rfl, Row.nil _ _, Below.refl _ _⟩
  · have hu : TextN.uncode l = TextN.uncodeF [] l := if_neg hbig
    rw [hu]
    clear hu
    have hmk := make0 (l.length * 3 / 4) (by omega)
    rw [show ((l.length * 3 / 4 : Nat) : Int) = (l.length : Int) * 3 / 4 from by omega] at hmk
    have hm0 := Row.made w.heap.size (l.length * 3 / 4) w (Nat.le_refl _) (by unfold maxLen; omega)
    have hb0 := (Below.refl w.heap.size w).alloc (Nat.le_refl _) (.cells (madeCells #[.int .u8 0] (l.length * 3 / 4)) 5)
    go_enter Try.func15, Try.ntmps15
    go_wp2
    go_loopw [0, 4] (fun s v wr => ∃ (rest acc : List UInt8), s = .string ⟨rest.toArray⟩ ∧ acc.length + rest.length ≤ l.length ∧ TextN.uncodeF acc rest = TextN.uncodeF [] l ∧
        Row w.heap.size wr v acc ∧ Below w.heap.size w wr) (fun s _ _ => strLen s)
    case atStart => exact ⟨l, [], rfl, by simp, rfl, hm0, hb0⟩
    case round =>
      obtain ⟨rest, acc, rfl, hk, hF, hrow, hb⟩ := hrel
      have HF := Lib.hid hF; clear hF hm0 hb0 hmk
      by_cases hr : rest = []
      · subst hr
        rw [TextN.uncodeF_nil] at HF
        go_wp2
        go_ret2
        rw [← HF.out]
        exact ⟨_, rfl, hrow, hb⟩
      · have hpos : 0 < rest.length := List.length_pos_iff.2 hr
        have Hr := Lib.hid hr; clear hr
        by_cases h4 : (rest.length : Int) ≤ 4
        · have ht : rest.take 4 = rest := List.take_of_length_le (by omega)
          have HG := Lib.hid (group_any rest wr (by omega) (by omega))
          have hV := TextN.rg_lt rest
          have hE := TextN.rg_err rest
          by_cases her : (TextN.rg rest).1 = 0
          · have Hfin := Lib.hid (HF.out.symm.trans (TextN.uncodeF_go acc rest Hr.out (by rw [ht]; exact her)))
            rw [ht, List.drop_of_length_le (show rest.length ≤ 4 by omega)] at Hfin
            have Htwo := Lib.hid (TextN.rg_two _ her)
            rw [her] at HG
            clear her hE ht
            generalize (TextN.rg rest).2 = V at *
            go_wp2_with fail
            rw [TextN.ext, Nat.sub_zero, List.drop_zero, List.take_length]
            refine HG.out.mono ?_
            rintro e w' ⟨rfl, rfl⟩
            go_wp2
            go_loopw [4, 35] (fun v i w2 => ∃ k : Nat, k + 1 ≤ rest.length ∧ i = .int .i64 k ∧ Row w.heap.size w2 v (acc ++ (TextN.three V).take k) ∧ Below w.heap.size w w2) (fun _ i _ => rest.length - (intOf i).toNat)
            case atStart => exact ⟨0, by omega, rfl, by simpa using hrow, hb⟩
            case round =>
              clear hrow hb
              obtain ⟨k, hk1, rfl, hrow, hb⟩ := hrel
              have hB := hb.size
              by_cases hlt : (k : Int) < (rest.length : Int) - 1
              · have hk3 : k = 0 ∨ k = 1 ∨ k = 2 := by omega
                rcases hk3 with rfl | rfl | rfl
                · have hnew := new1 wr _ _ (b0 V hV)
                  go_wp2_with (at_builtin; go_must (refine app1 rfl (.tmp 38) (.tmp 45) rfl w.heap.size _ _ rfl (hrow.alloc _) ⟨wr.heap.size, 0, none⟩ 1 (UInt8.ofNat (V / 65536)) rfl hnew (by rw [List.length_append, List.length_take]; omega) (by simp; omega) ?_))
                  intro v' w' hrow' hb'
                  clear hnew
                  go_wp2
                  go_roundw
                  case rel => exact ⟨1, by omega, rfl, hrow', (hb.alloc hB _).trans hb'⟩
                  case measure => simp [intOf]; omega
                · have hnew := new1 wr _ _ (b1 V)
                  go_wp2_with (at_builtin; go_must (refine app1 rfl (.tmp 38) (.tmp 45) rfl w.heap.size _ _ rfl (hrow.alloc _) ⟨wr.heap.size, 0, none⟩ 1 (UInt8.ofNat (V / 256)) rfl hnew (by rw [List.length_append, List.length_take]; omega) (by simp; omega) ?_))
                  intro v' w' hrow' hb'
                  clear hnew
                  go_wp2
                  go_roundw
                  case rel => exact ⟨2, by omega, rfl, hrow', (hb.alloc hB _).trans hb'⟩
                  case measure => simp [intOf]; omega
                · have hnew := new1 wr _ _ (b2 V)
                  go_wp2_with (at_builtin; go_must (refine app1 rfl (.tmp 38) (.tmp 45) rfl w.heap.size _ _ rfl (hrow.alloc _) ⟨wr.heap.size, 0, none⟩ 1 (UInt8.ofNat (V)) rfl hnew (by rw [List.length_append, List.length_take]; omega) (by simp; omega) ?_))
                  intro v' w' hrow' hb'
                  clear hnew
                  go_wp2
                  go_roundw
                  case rel => exact ⟨3, by omega, rfl, hrow', (hb.alloc hB _).trans hb'⟩
                  case measure => simp [intOf]; omega
              · have hkk : k = rest.length - 1 := by omega
                subst hkk
                go_wp2
                go_roundw
                case rel => exact ⟨[], _, rfl, by rw [List.length_append, List.length_take, List.length_nil]; omega, Hfin.out.symm, hrow, hb⟩
                case measure => exact hpos
          · have Hfin := Lib.hid (HF.out.symm.trans (TextN.uncodeF_bad acc rest Hr.out (by rw [ht]; exact her)))
            have hb0 : (((TextN.rg rest).1 : Int) != 0) = true := by rw [bne_iff_ne]; omega
            rw [ht] at Hfin
            clear her ht
            generalize TextN.rg rest = G at *
            go_wp2_with fail
            rw [TextN.ext, Nat.sub_zero, List.drop_zero, List.take_length]
            refine HG.out.mono ?_
            rintro e w' ⟨rfl, rfl⟩
            go_wp2
            go_ret2
            rw [Hfin.out]
            exact ⟨_, rfl, Row.nil _ _, hb⟩
        · have h4' : 4 < (rest.length : Int) := by omega
          clear h4
          have hl4 : (rest.take 4).length = 4 := by rw [List.length_take]; omega
          have HG := Lib.hid (group_any (rest.take 4) wr (by omega) (by omega))
          have hV := TextN.rg_lt (rest.take 4)
          have hE := TextN.rg_err (rest.take 4)
          by_cases her : (TextN.rg (rest.take 4)).1 = 0
          · have Hfin := Lib.hid (HF.out.symm.trans (TextN.uncodeF_go acc rest Hr.out her))
            rw [hl4] at Hfin
            rw [her] at HG
            clear her hE hl4
            generalize (TextN.rg (rest.take 4)).2 = V at *
            go_wp2_with fail
            rw [TextN.ext, Nat.sub_zero, List.drop_zero]
            refine HG.out.mono ?_
            rintro e w' ⟨rfl, rfl⟩
            go_wp2
            go_loopw [4, 35] (fun v i w2 => ∃ k : Nat, k + 1 ≤ 4 ∧ i = .int .i64 k ∧ Row w.heap.size w2 v (acc ++ (TextN.three V).take k) ∧ Below w.heap.size w w2) (fun _ i _ => 4 - (intOf i).toNat)
            case atStart => exact ⟨0, by omega, rfl, by simpa using hrow, hb⟩
            case round =>
              clear hrow hb
              obtain ⟨k, hk1, rfl, hrow, hb⟩ := hrel
              have hB := hb.size
              by_cases hlt : (k : Int) < 3
              · have hk3 : k = 0 ∨ k = 1 ∨ k = 2 := by omega
                rcases hk3 with rfl | rfl | rfl
                · have hnew := new1 wr _ _ (b0 V hV)
                  go_wp2_with (at_builtin; go_must (refine app1 rfl (.tmp 38) (.tmp 45) rfl w.heap.size _ _ rfl (hrow.alloc _) ⟨wr.heap.size, 0, none⟩ 1 (UInt8.ofNat (V / 65536)) rfl hnew (by rw [List.length_append, List.length_take]; omega) (by simp; omega) ?_))
                  intro v' w' hrow' hb'
                  clear hnew
                  go_wp2
                  go_roundw
                  case rel => exact ⟨1, by omega, rfl, hrow', (hb.alloc hB _).trans hb'⟩
                  case measure => simp [intOf]
                · have hnew := new1 wr _ _ (b1 V)
                  go_wp2_with (at_builtin; go_must (refine app1 rfl (.tmp 38) (.tmp 45) rfl w.heap.size _ _ rfl (hrow.alloc _) ⟨wr.heap.size, 0, none⟩ 1 (UInt8.ofNat (V / 256)) rfl hnew (by rw [List.length_append, List.length_take]; omega) (by simp; omega) ?_))
                  intro v' w' hrow' hb'
                  clear hnew
                  go_wp2
                  go_roundw
                  case rel => exact ⟨2, by omega, rfl, hrow', (hb.alloc hB _).trans hb'⟩
                  case measure => simp [intOf]
                · have hnew := new1 wr _ _ (b2 V)
                  go_wp2_with (at_builtin; go_must (refine app1 rfl (.tmp 38) (.tmp 45) rfl w.heap.size _ _ rfl (hrow.alloc _) ⟨wr.heap.size, 0, none⟩ 1 (UInt8.ofNat (V)) rfl hnew (by rw [List.length_append, List.length_take]; omega) (by simp; omega) ?_))
                  intro v' w' hrow' hb'
                  clear hnew
                  go_wp2
                  go_roundw
                  case rel => exact ⟨3, by omega, rfl, hrow', (hb.alloc hB _).trans hb'⟩
                  case measure => simp [intOf]
              · obtain rfl : k = 3 := by omega
                go_wp2
                rw [TextN.ext_tail]
                go_roundw
                case rel => exact ⟨rest.drop 4, _, rfl, by rw [List.length_append, List.length_take, List.length_drop]; omega, Hfin.out.symm, hrow, hb⟩
                case measure => show (rest.drop 4).toArray.size < rest.toArray.size; simp; omega
          · have Hfin := Lib.hid (HF.out.symm.trans (TextN.uncodeF_bad acc rest Hr.out her))
            have hb0 : (((TextN.rg (rest.take 4)).1 : Int) != 0) = true := by rw [bne_iff_ne]; omega
            clear her hl4
            generalize TextN.rg (rest.take 4) = G at *
            go_wp2_with fail
            rw [TextN.ext, Nat.sub_zero, List.drop_zero]
            refine HG.out.mono ?_
            rintro e w' ⟨rfl, rfl⟩
            go_wp2
            go_ret2
            rw [Hfin.out]
            exact ⟨_, rfl, Row.nil _ _, hb⟩

end Go.Proofs.Ytnbchnaehmbfcaa.TextUncodeW
