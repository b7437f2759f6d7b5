/-
  vec.Put, Take, All, Rows, Nest and Unnest: what they hand back, for every argument. Conditions: bounds in each statement.
-/
import Derived.Test.YtgicbjpeagmfcaaVecSplit
import Derived.Test.YtgicbjpeagmfcaaBClone
namespace Go.Proofs.Ytgicbjpeagmfcaa.VecFnsW
open Go.RowKit BytesW VecAppW VecSplitW RowsW

theorem if_put (n : Int) (acc l : List UInt8) : (if (VecM.put n l).1 = 0 then acc ++ (VecM.put n l).2 else []) = if (VecM.put n l).1 = 0 then acc ++ (VecM.put n l).2 else [] := rfl
theorem put_if (n : Int) (l : List UInt8) : (if (VecM.put n l).1 = 0 then [] ++ (VecM.put n l).2 else []) = (VecM.put n l).2 := by
  by_cases h : (VecM.put n l).1 = 0
  · rw [if_pos h, List.nil_append]
  · rw [if_neg h, VecM.put_err h]

/-- A row of bytes and an error. -/
def ByPost (p : Nat × List UInt8) (w : World) (e : Ending) (w' : World) : Prop :=
  ∃ v', e = .returned (.tuple #[v', .int .i64 (p.1 : Int)]) ∧ Row w.heap.size w' v' p.2 ∧ Below w.heap.size w w'
/-- Two rows of bytes and an error. -/
def TwPost (p : Nat × List UInt8 × List UInt8) (w : World) (e : Ending) (w' : World) : Prop :=
  ∃ v1 v2, e = .returned (.tuple #[v1, v2, .int .i64 (p.1 : Int)]) ∧ Row w.heap.size w' v1 p.2.1 ∧ Row w.heap.size w' v2 p.2.2 ∧ Below w.heap.size w w'
/-- Rows of bytes and an error. -/
def RoPost (p : Nat × List (List UInt8)) (w : World) (e : Ending) (w' : World) : Prop :=
  ∃ v', e = .returned (.tuple #[v', .int .i64 (p.1 : Int)]) ∧ MRow w.heap.size w' v' p.2 ∧ Below w.heap.size w w'

set_option maxHeartbeats 1000000 in
set_option maxRecDepth 100000 in
theorem put_any (n : Int) (l : List UInt8) (A : Option Addr) (c : Nat) (w : World) (hA : Bs w w.heap.size A l) (hlen : l.length + 3 ≤ 140737488355328) :
    Calls Try.prog 10 #[.int .i64 n, .slice A l.length c] w (ByPost (VecM.put n l) w) := by
  have happ := Lib.hid (append_any n (.slice none 0 0) [] l A c w.heap.size w (Row.nil _ _) hA (by simpa using hlen) (Nat.le_refl _))
  clear hA
  go_enter Try.func10, Try.ntmps10
  go_wp2_with fail
  refine happ.out.mono ?_
  clear happ
  rintro e w1 ⟨v', rfl, hr, hb⟩
  rw [put_if] at hr
  go_wp2
  go_ret2
  exact ⟨_, rfl, hr, hb⟩

set_option maxHeartbeats 1000000 in
set_option maxRecDepth 100000 in
theorem take_any (n : Int) (l : List UInt8) (A : Option Addr) (c : Nat) (w : World) (hA : Bs w w.heap.size A l) (hlen : l.length ≤ 140737488355328) (hc : l.length ≤ c) :
    Calls Try.prog 12 #[.int .i64 n, .slice A l.length c] w (TwPost (VecM.take n l) w) := by
  have hs := Lib.hid (split_any n l A c w.heap.size w hA hc)
  have hl := VecM.take_lens n l
  have hte := Lib.hid (@VecM.take_err n l)
  clear hA
  unfold SplitPost at hs
  generalize VecM.take n l = t at *
  obtain ⟨er, d, r⟩ := t
  simp only at hl hte hs
  go_enter Try.func12, Try.ntmps12
  go_wp2_with fail
  refine hs.out.mono ?_
  clear hs
  rintro e w1 ⟨A1, c1, A2, c2, rfl, h1, hc1, h2, hc2, hb⟩
  by_cases her : er = 0
  · subst her
    go_wp2_with fail
    refine (BCloneW.clone_any A1 d c1 w1 (h1.more hb.size) (by omega)).mono ?_
    rintro e w2 ⟨v1, rfl, r1, b1⟩
    have h2' := (h2.more hb.size).below b1 |>.more b1.size
    go_wp2_with fail
    refine (BCloneW.clone_any A2 r c2 w2 h2' (by omega)).mono ?_
    rintro e w3 ⟨v2, rfl, r2, b2⟩
    have r1' := r1.below b2
    have hm1 : Row w.heap.size w3 v1 d := r1'.base hb.size
    have hm2 : Row w.heap.size w3 v2 r := r2.base (Nat.le_trans hb.size b1.size)
    clear h1 h2 h2' r1 r2 r1'
    go_wp2
    go_ret3
    exact ⟨_, _, rfl, hm1, hm2, hb.trans ((b1.mono hb.size).trans (b2.mono (Nat.le_trans hb.size b1.size)))⟩
  · have he := hte.out her
    simp only [Prod.mk.injEq] at he
    obtain ⟨rfl, rfl⟩ := he
    have n1 : ((er : Int) != 0) = true := by simp; omega
    clear hte h1 h2
    go_wp2
    go_ret3
    exact ⟨_, _, rfl, Row.nil _ _, Row.nil _ _, hb⟩

theorem total_take (ls : List (List UInt8)) (k : Nat) (h : k < ls.length) : VecM.total (ls.take k) + ls[k].length ≤ VecM.total ls := by
  have e := VecM.total_append (ls.take k) (ls.drop k)
  rw [List.take_append_drop, List.drop_eq_getElem_cons h, VecM.total_cons] at e
  omega

theorem put_len3 (n : Int) (acc l : List UInt8) (h : (VecM.put n l).1 = 0) : (if (VecM.put n l).1 = 0 then acc ++ (VecM.put n l).2 else []) = acc ++ (VecM.put n l).2 := if_pos h

set_option maxHeartbeats 4000000 in
set_option maxRecDepth 100000 in
theorem all_any (n : Int) (ls : List (List UInt8)) (A : Option Addr) (c : Nat) (w : World) (hA : Ms w w.heap.size A ls) (hlen : VecM.total ls + 3 * ls.length ≤ 140737488355328) :
    Calls Try.prog 14 #[.int .i64 n, .slice A ls.length c] w (ByPost (VecM.all n ls) w) := by
  have hR := Lib.hid (VecM.allF_all n ls)
  generalize VecM.all n ls = R at *
  go_enter Try.func14, Try.ntmps14
  go_wp2
  go_loopw [6, 13] (fun v i wr => ∃ (k : Nat) (acc : List UInt8), k ≤ ls.length ∧ i = .int .i64 k ∧ VecM.allF n acc (ls.drop k) = R ∧ acc.length ≤ VecM.total (ls.take k) + 3 * k ∧ Row w.heap.size wr v acc ∧ Below w.heap.size w wr)
    (fun _ i _ => ls.length - (intOf i).toNat)
  case atStart => exact ⟨0, [], Nat.zero_le _, rfl, hR.out, by simp, Row.nil _ _, Below.refl _ _⟩
  case round =>
    obtain ⟨k, acc, hk, rfl, hF, hal, hrow, hb⟩ := hrel
    have HF := Lib.hid hF
    clear hF
    by_cases hlt : k < ls.length
    · have ht := total_take ls k hlt
      obtain ⟨ad, a, c1, rfl, hadb, hcell, hBs, hc1⟩ := (hA.below hb).at_ hlt
      have happ := Lib.hid (append_any n _ acc ls[k] a c1 w.heap.size wr hrow hBs (by omega) hb.size)
      have hd : ls.drop k = ls[k] :: ls.drop (k + 1) := List.drop_eq_getElem_cons hlt
      have hp2 := VecM.put_len2 n ls[k]
      have HB := Lib.hid (fun h : (VecM.put n ls[k]).1 ≠ 0 => HF.out.symm.trans ((congrArg (VecM.allF n acc) hd).trans (VecM.allF_bad acc (ls.drop (k + 1)) h)))
      have HG := Lib.hid (fun h : (VecM.put n ls[k]).1 = 0 => HF.out.symm.trans ((congrArg (VecM.allF n acc) hd).trans (VecM.allF_go acc (ls.drop (k + 1)) h)))
      have HT := Lib.hid (show VecM.total (ls.take (k + 1)) = VecM.total (ls.take k) + ls[k].length by
        rw [List.take_succ_eq_append_getElem hlt, VecM.total_append]; simp [VecM.total])
      clear hA hBs hd hrow HF ht
      unfold AppPost at happ
      generalize VecM.put n ls[k] = P at *
      obtain ⟨er, p⟩ := P
      simp only at happ hp2 HB HG
      generalize hrk : ls[k] = row at *
      clear hrk
      go_wp2_with fail
      refine happ.out.mono ?_
      clear happ
      rintro e w1 ⟨v', rfl, hr, hb1⟩
      by_cases her : er = 0
      · subst her
        rw [if_pos rfl] at hr
        go_wp2
        go_roundw
        case rel => exact ⟨k + 1, acc ++ p, by omega, by go_num, (HG.out (by first | rfl | trivial)).symm, by rw [HT.out, List.length_append]; omega, hr, hb.trans hb1⟩
        case measure => simp [intOf]; omega
      · have n1 : ((er : Int) != 0) = true := by simp; omega
        have Hfin := Lib.hid (HB.out her)
        clear HG HB hr
        go_wp2
        go_ret2
        rw [Hfin.out]
        exact ⟨_, rfl, Row.nil _ _, hb.trans hb1⟩
    · obtain rfl : k = ls.length := by omega
      have hF := HF.out
      rw [List.drop_length, VecM.allF_nil] at hF
      subst hF
      clear HF
      go_wp2
      go_ret2
      exact ⟨_, rfl, hrow, hb⟩

/-- The length of a slice's value. -/
def sliceLen : Value → Nat
  | .slice _ n _ => n
  | _ => 0

set_option maxHeartbeats 4000000 in
set_option maxRecDepth 100000 in
theorem rows_any (n : Int) (l : List UInt8) (A : Option Addr) (c : Nat) (w : World) (hA : Bs w w.heap.size A l) (hlen : l.length ≤ 4398046511104) (hc : l.length ≤ c) :
    Calls Try.prog 16 #[.int .i64 n, .slice A l.length c] w (RoPost (VecM.rows n l) w) := by
  have hR := Lib.hid (VecM.rowsF_rows n l)
  generalize VecM.rows n l = R at *
  go_enter Try.func16, Try.ntmps16
  go_wp2
  go_loopw [1, 6] (fun b v wr => ∃ (A' : Option Addr) (c' : Nat) (rest : List UInt8) (acc : List (List UInt8)), b = .slice A' rest.length c' ∧ rest.length ≤ c' ∧ Bs wr w.heap.size A' rest ∧ VecM.rowsF n acc rest = R ∧ acc.length + rest.length ≤ l.length ∧
      MRow w.heap.size wr v acc ∧ Below w.heap.size w wr) (fun b _ _ => sliceLen b)
  case atStart => exact ⟨A, c, l, [], rfl, hc, hA, hR.out, by simp, MRow.nil _ _, Below.refl _ _⟩
  case round =>
    obtain ⟨A', c', rest, acc, rfl, hc', hBs, hF, hal, hrow, hb⟩ := hrel
    have HF := Lib.hid hF
    clear hF hA
    by_cases hr : rest = []
    · subst hr
      have hF := HF.out
      rw [VecM.rowsF_nil] at hF
      subst hF
      clear HF
      go_wp2
      go_ret2
      exact ⟨_, rfl, hrow, hb⟩
    · have hpos : 0 < rest.length := List.length_pos_iff.2 hr
      have hs := Lib.hid (split_any n rest A' c' w.heap.size wr hBs hc')
      have hl := VecM.take_lens n rest
      have hte := Lib.hid (@VecM.take_lt n rest)
      have HB := Lib.hid (fun h : (VecM.take n rest).1 ≠ 0 => HF.out.symm.trans (VecM.rowsF_bad acc hr h))
      have HG := Lib.hid (fun h : (VecM.take n rest).1 = 0 => HF.out.symm.trans (VecM.rowsF_go acc hr h))
      unfold SplitPost at hs
      clear hr HF hBs
      generalize VecM.take n rest = t at *
      obtain ⟨er, d, r⟩ := t
      simp only at hl hte hs HB HG
      go_wp2_with fail
      refine hs.out.mono ?_
      clear hs
      rintro e w1 ⟨A1, c1, A2, c2, rfl, h1, hc1, h2, hc2, hb1⟩
      have hbb := hb.trans (hb1.mono hb.size)
      have hrow1 := hrow.below hb1
      clear hrow
      by_cases her : er = 0
      · subst her
        have hlt := hte.out rfl
        clear hte HB
        go_wp2_with fail
        refine (BCloneW.clone_any A1 d c1 w1 (h1.more hbb.size) (by omega)).mono ?_
        rintro e w2 ⟨x, rfl, rx, b2⟩
        have hbb2 := hbb.trans (b2.mono hbb.size)
        have hrow2 := hrow1.below b2
        have h2' := (h2.below (b2.mono hbb.size))
        obtain ⟨X, cx, rfl, hX, hcx⟩ := rx.form2
        have hEl := El.fresh hrow1 rx hcx
        have hal1 := (Below.refl w2.heap.size w2).alloc (Nat.le_refl _) (.cells #[.slice X d.length cx] 22)
        have hE1 := Es.one (hEl.below hal1)
        have hrow3 := hrow2.below hal1
        have h3 := h2'.below (hal1.mono hbb2.size)
        have hnew := new_row w2 X d.length cx
        have hB3 : w.heap.size ≤ (w2.alloc (.cells #[.slice X d.length cx] 22)).heap.size := by have := hbb2.size; simp; omega
        have hbb3 := hbb2.trans (hal1.mono hbb2.size)
        clear h1 h2 h2' hrow1 hrow2 rx hX hEl hal1 hb1 b2 hb
        have HE1 := Lib.hid hE1
        have HN := Lib.hid hnew
        clear hE1 hnew
        generalize hW3 : w2.alloc (.cells #[.slice X d.length cx] 22) = w3 at *
        have HW3 := Lib.hid hW3
        clear hW3
        go_wp2_with (at_builtin; go_must (rw [HW3.out]; refine mapp rfl (.tmp 23) (.tmp 26) rfl w.heap.size _ acc rfl hrow3 ⟨w2.heap.size, 0, none⟩ 1 [.slice X d.length cx] [d] rfl HE1.out HN.out (by simp; omega) hB3 ?_))
        intro v' w4 hrow4 hb4
        go_wp2
        go_roundw
        case rel => exact ⟨A2, c2, r, acc ++ [d], rfl, hc2, h3.below hb4, (HG.out (by first | rfl | trivial)).symm, by simp; omega, hrow4, hbb3.trans hb4⟩
        case measure => exact hlt
      · have n1 : ((er : Int) != 0) = true := by simp; omega
        have Hfin := Lib.hid (HB.out her)
        clear HG HB hrow1 hte
        go_wp2
        go_ret2
        rw [Hfin.out]
        exact ⟨_, rfl, MRow.nil _ _, hbb⟩
end Go.Proofs.Ytgicbjpeagmfcaa.VecFnsW
