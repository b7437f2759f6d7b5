/-
  ticketwardref.BAll and BRows: what they hand back. Conditions: bounds in each statement.
-/
import Derived.Test.YtgicbjpeagmfcaaRefTake
namespace Go.Proofs.Ytgicbjpeagmfcaa.RefAllW
open Go.RowKit BytesW VecAppW VecFnsW VecSplitW RowsW RefPutW RefTakeW

set_option maxHeartbeats 4000000 in
set_option maxRecDepth 100000 in
theorem all_ref (n : Int) (ls : List (List UInt8)) (A : Option Addr) (c : Nat) (w : World) (hA : Ms w w.heap.size A ls) (hlen : VecM.total ls + 3 * ls.length ≤ 140737488355324) :
    Calls Try.prog 15 #[.int .i64 n, .slice A ls.length c] w (ByPost (VecM.all n ls) w) := by
  have hR := Lib.hid (VecM.allF_all n ls)
  generalize VecM.all n ls = R at *
  go_enter Try.func15, Try.ntmps15
  go_wp2
  go_loopw [6, 13] (fun v i wr => ∃ (k : Nat) (acc : List UInt8), k ≤ ls.length ∧ i = .int .i64 k ∧ VecM.allF n acc (ls.drop k) = R ∧ acc.length ≤ VecM.total (ls.take k) + 3 * k ∧ Row w.heap.size wr v acc ∧ Below w.heap.size w wr)
    (fun _ i _ => ls.length - (intOf i).toNat)
  case atStart => exact ⟨0, [], Nat.zero_le _, rfl, hR.out, by simp, Row.nil _ _, Below.refl _ _⟩
  case round =>
    obtain ⟨k, acc, hk, rfl, hF, hal, hrow, hb⟩ := hrel
    have HF := Lib.hid hF
    clear hF
    by_cases hlt : k < ls.length
    · have ht := total_take ls k hlt
      obtain ⟨ad, a, c1, rfl, hadb, hcell, hBs, hc1⟩ := (hA.below hb).at_ hlt
      have happ := Lib.hid (put_ref n ls[k] a c1 wr (hBs.more hb.size) (by omega))
      have hd : ls.drop k = ls[k] :: ls.drop (k + 1) := List.drop_eq_getElem_cons hlt
      have hp2 := VecM.put_len2 n ls[k]
      have HB := Lib.hid (fun h : (VecM.put n ls[k]).1 ≠ 0 => HF.out.symm.trans ((congrArg (VecM.allF n acc) hd).trans (VecM.allF_bad acc (ls.drop (k + 1)) h)))
      have HG := Lib.hid (fun h : (VecM.put n ls[k]).1 = 0 => HF.out.symm.trans ((congrArg (VecM.allF n acc) hd).trans (VecM.allF_go acc (ls.drop (k + 1)) h)))
      have HT := Lib.hid (show VecM.total (ls.take (k + 1)) = VecM.total (ls.take k) + ls[k].length by
        rw [List.take_succ_eq_append_getElem hlt, VecM.total_append]; simp [VecM.total])
      clear hA hBs hd HF
      unfold ByPost at happ
      generalize VecM.put n ls[k] = P at *
      obtain ⟨er, p⟩ := P
      simp only at happ hp2 HB HG
      generalize hrk : ls[k] = row at *
      clear hrk
      go_wp2_with fail
      refine happ.out.mono ?_
      clear happ
      rintro e w1 ⟨v', rfl, hr, hb1⟩
      have hrow1 := hrow.below hb1
      have hbb := hb.trans (hb1.mono hb.size)
      clear hrow
      by_cases her : er = 0
      · subst her
        obtain ⟨X, cx, rfl, hX, hcx⟩ := hr.form2
        have HX := Lib.hid hX
        clear hr hX
        have hlen2 : acc.length + p.length ≤ 140737488355328 := by omega
        have hbs := hbb.size
        go_wp2_with (at_builtin; go_must (refine appN rfl (.tmp 26) (.tmp 27) rfl w.heap.size _ _ acc rfl hrow1 X p cx rfl HX.out hlen2 hbs ?_))
        intro v2 w2 hr2 hb2
        go_wp2
        go_roundw
        case rel => exact ⟨k + 1, acc ++ p, by omega, by go_num, (HG.out (by first | rfl | trivial)).symm, by rw [HT.out, List.length_append]; omega, hr2, hbb.trans hb2⟩
        case measure => simp [intOf]; omega
      · have n1 : ((er : Int) != 0) = true := by simp; omega
        have Hfin := Lib.hid (HB.out her)
        clear HG HB hr
        go_wp2
        go_ret2
        rw [Hfin.out]
        exact ⟨_, rfl, Row.nil _ _, hbb⟩
    · obtain rfl : k = ls.length := by omega
      have hF := HF.out
      rw [List.drop_length, VecM.allF_nil] at hF
      subst hF
      clear HF
      go_wp2
      go_ret2
      exact ⟨_, rfl, hrow, hb⟩

set_option maxHeartbeats 4000000 in
set_option maxRecDepth 100000 in
theorem rows_ref (n : Int) (N : Nat) : ∀ (l : List UInt8) (A : Option Addr) (c : Nat) (w : World) (_ : l.length ≤ N) (_ : Bs w w.heap.size A l) (_ : l.length ≤ 4398046511104) (_ : l.length ≤ c),
    Calls Try.prog 17 #[.int .i64 n, .slice A l.length c] w (RoPost (VecM.rows n l) w) := by
  induction N with
  | zero =>
    intro l A c w hN _ _ _
    have hl : l = [] := List.eq_nil_of_length_eq_zero (by omega)
    subst hl
    rw [VecM.rows_nil]
    go_enter Try.func17, Try.ntmps17
    go_wp2_with fail
    go_ret2
    exact ⟨_, rfl, MRow.nil _ _, Below.refl _ _⟩
  | succ N ih =>
    intro l A c w hN hA hlen hc
    by_cases hl : l = []
    · subst hl
      rw [VecM.rows_nil]
      go_enter Try.func17, Try.ntmps17
      go_wp2_with fail
      go_ret2
      exact ⟨_, rfl, MRow.nil _ _, Below.refl _ _⟩
    · have hpos : 0 < l.length := List.length_pos_iff.2 hl
      have ht0 : ((l.length : Int) == 0) = false := beq_eq_false_iff_ne.2 (by omega)
      have hs := Lib.hid (take_ref n l A c w.heap.size w hA (by omega) hc)
      have hlt := Lib.hid (@VecM.take_lt n l)
      have HB := Lib.hid (fun h : (VecM.take n l).1 ≠ 0 => VecM.rows_bad hl h)
      have HB2 := Lib.hid (fun (h : (VecM.take n l).1 = 0) h2 => VecM.rows_bad2 hl h h2)
      have HG := Lib.hid (fun (h : (VecM.take n l).1 = 0) h2 => VecM.rows_go hl h h2)
      clear hl hA
      generalize VecM.rows n l = R at *
      unfold SplitPost at hs
      generalize VecM.take n l = t at *
      obtain ⟨er, d, r⟩ := t
      simp only at hlt hs HB HB2 HG
      have ih' := Lib.hid ih
      clear ih
      go_enter Try.func17, Try.ntmps17
      go_wp2_with fail
      refine hs.out.mono ?_
      clear hs
      rintro e w1 ⟨A1, c1, A2, c2, rfl, h1, hc1, h2, hc2, hb⟩
      by_cases her : er = 0
      · subst her
        have hrl := hlt.out rfl
        have hrn := VecM.rows_len n r
        have hre := Lib.hid (@VecM.rows_err n r)
        have hc3 := Lib.hid (ih'.out r A2 c2 w1 (by omega) (h2.more hb.size) (by omega) hc2)
        clear HB hlt ih' h2
        generalize VecM.rows n r = M at *
        obtain ⟨er2, ms⟩ := M
        simp only at hrn hre hc3 HB2 HG
        go_wp2_with fail
        refine hc3.out.mono ?_
        clear hc3
        rintro e w2 ⟨v, rfl, hm, hb2⟩
        simp only at hm
        by_cases her2 : er2 = 0
        · subst her2
          have Hfin := Lib.hid (HG.out (by first | rfl | trivial) rfl)
          clear HB2 HG hre
          obtain ⟨X, cx, us, rfl, hE, hcell⟩ := hm.open_
          have hbb := hb.trans (hb2.mono hb.size)
          have h1' := h1.below (hb2.mono hb.size)
          have hlit := MRow.lit w.heap.size w2 A1 d c1 hc1 (h1'.more hbb.size) hbb.size
          have hal := (Below.refl w2.heap.size w2).alloc (Nat.le_refl _) (.cells #[.slice A1 d.length c1] 22)
          have hE2 := Lib.hid (hE.behind (n := 1) (c := 1) hal)
          have hcell2 := Lib.hid (fun h0 : 0 < us.length => show ∃ ad, X = some ad ∧ ∀ (j : Nat) u, us[j]? = some u → (w2.alloc (.cells #[.slice A1 d.length c1] 22)).cell? (ad.add j) = some u by
            obtain ⟨ad, e, hlt, hcc⟩ := hcell h0
            exact ⟨ad, e, fun j u hj => (hal.cell (by rw [add_block]; exact hlt)).trans (hcc j u hj)⟩)
          have hbb3 := hbb.trans (hal.mono hbb.size)
          clear h1 h1' hm hE hcell hal hb hb2
          go_wp2_with (at_builtin; go_must (refine mappN rfl (.tmp 33) (.tmp 34) rfl w.heap.size _ [d] rfl hlit X cx us ms rfl hE2.out hcell2.out (by simp; omega) hbb3.size ?_))
          intro v' w4 hrow4 hb4
          go_wp2
          go_ret2
          rw [Hfin.out]
          exact ⟨_, rfl, hrow4, hbb3.trans hb4⟩
        · have n1 : ((er2 : Int) != 0) = true := by simp; omega
          have Hfin := Lib.hid (HB2.out (by first | rfl | trivial) her2)
          clear HB2 HG hre hm h1
          go_wp2_with fail
          go_ret2
          rw [Hfin.out]
          exact ⟨_, rfl, MRow.nil _ _, hb.trans (hb2.mono hb.size)⟩
      · have n1 : ((er : Int) != 0) = true := by simp; omega
        have Hfin := Lib.hid (HB.out her)
        clear HB HB2 HG hlt ih' h1 h2
        go_wp2_with fail
        go_ret2
        rw [Hfin.out]
        exact ⟨_, rfl, MRow.nil _ _, hb⟩
end Go.Proofs.Ytgicbjpeagmfcaa.RefAllW
