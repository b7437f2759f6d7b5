/-
  seal.appendPadded, appendLength, join, tagKey: what they hand back. Conditions: lengths in each statement.
-/
import Derived.Test.YtohpgfefdlccmaaSealTagR
import Derived.Test.YtohpgfefdlccmaaSealP
import Derived.Test.YtohpgfefdlccmaaStreamSum
import Derived.Test.YtohpgfefdlccmaaOneFace
namespace Go.Proofs.Ytohpgfefdlccmaa.SealFnsW
open Go.RowKit BytesW CellsW RowsW ArrW ArrG ArrL StreamM OneM OneI OneA16 SealM SealP SealTagW

set_option maxHeartbeats 8000000 in
set_option maxRecDepth 100000 in
theorem padded_any (B : Nat) (v : Value) (P : List UInt8) (A : Option Addr) (r : List UInt8) (ck : Nat) (w : World) (hrow : Row B w v P) (hPw : P.length % 16 = 0) (hA : Bs w w.heap.size A r) (hP : P.length ≤ 33000) (hr : r.length ≤ 16384) (hB : B ≤ w.heap.size) :
    Calls Try.prog 30 #[v, .slice A r.length ck] w fun e w' => ∃ v', e = .returned v' ∧ Row B w' v' (P ++ pad r) ∧ Below B w w' := by
  have RK := Lib.hid hrow
  have HBs := Lib.hid hA
  have HPw := Lib.hid hPw
  have HPl := Lib.hid hP
  have HRl := Lib.hid hr
  have HSz := Lib.hid hB
  clear hrow hA hPw hP hr hB
  go_enter Try.func30, Try.ntmps30
  go_wp2_with (at_builtin; go_must (refine appN rfl (.tmp 5) (.tmp 6) rfl B _ _ P rfl RK.out A r ck rfl HBs.out (by have := HPl.out; have := HRl.out; omega) HSz.out ?_))
  intro v2 w2 r2 b2
  have R20 : Hid (Row B w2 v2 (P ++ r ++ List.replicate 0 0)) := Lib.hid (by simpa using r2)
  have B20 := Lib.hid b2
  clear r2 b2
  go_wp2
  go_loopw [0] (fun va wx => ∃ j : Nat, j ≤ padN r.length ∧ Row B wx va (P ++ r ++ List.replicate j 0) ∧ Below B w wx) (fun va _ => 100000 - sliceLen' va)
  case atStart => exact ⟨0, Nat.zero_le _, R20.out, B20.out⟩
  case round =>
    clear R20 B20
    obtain ⟨j, hj, rj, bj⟩ := hrel
    obtain ⟨A5, c5, rfl, s5, hc5⟩ := rj.form2
    have RJ := Lib.hid rj
    have BJ := Lib.hid bj
    have hsz5 : B ≤ wr.heap.size := Nat.le_trans HSz.out bj.size
    have hpd : padN r.length < 16 := Nat.mod_lt _ (by decide)
    obtain ⟨N, hN⟩ : ∃ N, (P ++ r ++ List.replicate j 0).length = N := ⟨_, rfl⟩
    have hNe : N = P.length + r.length + j := by rw [← hN]; simp; omega
    have hNl : N ≤ 60000 := by have := HPl.out; have := HRl.out; omega
    rw [hN] at RJ ⊢
    obtain ⟨t, ht⟩ : ∃ t, N % 16 = t := ⟨_, rfl⟩
    have m1 : (N : Int).tmod 16 = (t : Int) := by rw [Int.tmod_eq_emod_of_nonneg (by omega)]; omega
    have m2 : (N : Int) % 16 = (t : Int) := by omega
    have hsz6 := Lib.hid hsz5
    by_cases hjl : j < padN r.length
    · have tp : (t : Int) ≠ 0 := by
        have h1 := HPw.out
        unfold padN at hjl
        omega
      have tt : ((t : Int) != 0) = true := bne_iff_ne.2 tp
      have ra := Lib.hid (RJ.out.alloc (.cells #[.int .u8 0] 5))
      have nb := Lib.hid (show (wr.alloc (.cells #[.int .u8 0] 5)).cell? ⟨wr.heap.size, 0, none⟩ = some (.int .u8 (((0 : UInt8).toNat : Nat) : Int)) from new_cell wr (.int .u8 0) 5)
      have ba := Lib.hid ((Below.refl wr.heap.size wr).alloc (Nat.le_refl _) (.cells #[.int .u8 0] 5))
      have HN := Lib.hid hN
      have hJl := Lib.hid hjl
      clear rj bj s5 hc5 hN hNe ht hj hjl hpd tp
      go_wp2_with (at_builtin; go_must (refine app1 rfl (.tmp 12) (.tmp 13) rfl B _ _ rfl ra.out ⟨wr.heap.size, 0, none⟩ 1 0 rfl nb.out (by rw [HN.out]; omega) (Nat.le_trans hsz6.out ba.out.size) ?_))
      intro v6 w6 r6 b6
      have r6' : Row B w6 v6 (P ++ r ++ List.replicate (j + 1) 0) := by simpa [List.replicate_succ', List.append_assoc] using r6
      have R6 := Lib.hid r6'
      have B6 := Lib.hid (BJ.out.trans ((ba.out.mono hsz6.out).trans b6))
      have hlen6 : sliceLen' v6 = N + 1 := by
        obtain ⟨A7, c7, rfl, -, -⟩ := r6.form2
        have := HN.out
        simp at this
        simp [sliceLen']
        omega
      have HL6 := Lib.hid hlen6
      clear r6 r6' b6 hlen6
      go_wp2
      go_roundw
      case rel => exact ⟨j + 1, hJl.out, R6.out, B6.out⟩
      case measure => rw [HL6.out]; simp [sliceLen']; omega
    · have hje : j = padN r.length := by omega
      have ht0 : t = 0 := by
        have h1 := HPw.out
        unfold padN at hje
        omega
      rw [ht0] at m1 m2
      have m3 : (N : Int).tmod 16 = 0 := m1
      have m4 : (N : Int) % 16 = 0 := m2
      clear m1 m2 ht0
      subst hje
      have hfin : P ++ r ++ List.replicate (padN r.length) 0 = P ++ pad r := by rw [List.append_assoc]; rfl
      have rf := RJ.out
      have hNf : (P ++ pad r).length = N := by rw [← hfin]; exact hN
      rw [hfin] at rf
      have RF := Lib.hid rf
      clear rj bj s5 hc5 hN hNe ht hj hjl hpd hfin rf hNf
      go_wp2
      go_ret
      exact ⟨_, rfl, RF.out, BJ.out⟩

set_option maxHeartbeats 8000000 in
set_option maxRecDepth 100000 in
theorem length_any (B : Nat) (v : Value) (S : List UInt8) (N : Nat) (w : World) (hrow : Row B w v S) (hS : S.length ≤ 60000) (hN : N ≤ 16384) (hB : B ≤ w.heap.size) :
    Calls Try.prog 31 #[v, .int .i64 (N : Int)] w fun e w' => ∃ v', e = .returned v' ∧ Row B w' v' (S ++ le8 N) ∧ Below B w w' := by
  have R0 : Hid (Row B w v (S ++ (le8 N).take 0)) := Lib.hid (by rw [List.take_zero, List.append_nil]; exact hrow)
  have HSl := Lib.hid hS
  have HNl := Lib.hid hN
  have HSz := Lib.hid hB
  clear hrow hS hB
  go_enter Try.func31, Try.ntmps31
  go_wp2
  go_loopw [0, 6] (fun va vj wx => ∃ j : Nat, j ≤ 8 ∧ vj = .int .i64 (j : Int) ∧ Row B wx va (S ++ (le8 N).take j) ∧ Below B w wx) (fun _ vj _ => 8 - (intOf vj).toNat)
  case atStart => exact ⟨0, by omega, rfl, R0.out, Below.refl _ _⟩
  case round =>
    clear R0
    obtain ⟨j, hj, rfl, rj, bj⟩ := hrel
    have RJ := Lib.hid rj
    have BJ := Lib.hid bj
    have HZj := Lib.hid (Nat.le_trans HSz.out bj.size)
    clear rj bj
    by_cases hlj : j < 8
    · have cj : decide ((j : Int) < 8) = true := decide_eq_true (by omega)
      have htk := le8_take N j hlj
      obtain ⟨y, hy⟩ : ∃ y, UInt8.ofNat (N / 256 ^ j) = y := ⟨_, rfl⟩
      rw [hy] at htk
      have hp : (2 : Int) ^ (8 * j) = ((256 ^ j : Nat) : Int) := by rw [Int.pow_mul]; simp
      have wy : (N : Int) / 2 ^ (8 * j) % 256 = (y.toNat : Int) := by rw [← hy, UInt8.toNat_ofNat', hp]; omega
      obtain ⟨sh, hsh⟩ : ∃ sh, 8 * j = sh := ⟨_, rfl⟩
      rw [hsh] at wy
      have wsh : IntKind.i64.wrap (8 * (j : Int)) = (sh : Int) := by rw [IntWalk.i64_in _ (by omega)]; omega
      have hs64 : sh < 64 := by omega
      have hdn : (0 : Int) ≤ (N : Int) / 2 ^ sh := Int.ediv_nonneg (by omega) (Int.pow_nonneg (by decide))
      have hdl : (N : Int) / 2 ^ sh ≤ N := Int.ediv_le_self _ (by omega)
      have HTk := Lib.hid htk
      have ra := Lib.hid (RJ.out.alloc (.cells #[.int .u8 (y.toNat : Int)] 5))
      have nb := Lib.hid (new_cell wr (.int .u8 (y.toNat : Int)) 5)
      have ba := Lib.hid ((Below.refl wr.heap.size wr).alloc (Nat.le_refl _) (.cells #[.int .u8 (y.toNat : Int)] 5))
      have HLb := Lib.hid (show (S ++ (le8 N).take j).length + 1 ≤ 140737488355328 by rw [List.length_append, List.length_take, le8_len]; have := HSl.out; omega)
      have HLj := Lib.hid hlj
      clear htk hy hj hp hsh
      go_wp2_with (at_builtin; go_must (refine app1 rfl (.tmp 9) (.tmp 15) rfl B _ _ rfl ra.out ⟨wr.heap.size, 0, none⟩ 1 y rfl nb.out HLb.out (Nat.le_trans HZj.out ba.out.size) ?_))
      intro v6 w6 r6 b6
      have r6' : Row B w6 v6 (S ++ (le8 N).take (j + 1)) := by rw [HTk.out]; simpa [List.append_assoc] using r6
      have B6 := Lib.hid (BJ.out.trans ((ba.out.mono HZj.out).trans b6))
      have R6 := Lib.hid r6'
      clear r6 r6' b6
      go_wp2
      go_roundw
      case rel => exact ⟨j + 1, by have := HLj.out; omega, by go_num, R6.out, B6.out⟩
      case measure => have := HLj.out; simp [intOf]; omega
    · obtain rfl : j = 8 := by omega
      have cj : decide (((8 : Nat) : Int) < 8) = false := rfl
      have rf := RJ.out
      rw [List.take_of_length_le (by rw [le8_len]; exact Nat.le_refl _)] at rf
      have RF := Lib.hid rf
      clear rf
      go_wp2
      go_ret
      exact ⟨_, rfl, RF.out, BJ.out⟩

set_option maxHeartbeats 8000000 in
set_option maxRecDepth 100000 in
theorem join_any (A : Option Addr) (extra : List UInt8) (c0 : Nat) (A' : Option Addr) (c : List UInt8) (c1 : Nat) (w : World) (hA : Bs w w.heap.size A extra) (hB : Bs w w.heap.size A' c) (hx : extra.length ≤ 16384) (hc : c.length ≤ 16384) :
    Calls Try.prog 16 #[.slice A extra.length c0, .slice A' c.length c1] w fun e w' => ∃ v', e = .returned v' ∧ Row w.heap.size w' v' (tagIn extra c) ∧ Below w.heap.size w w' := by
  have HA := Lib.hid hA
  have HB := Lib.hid hB
  have HX := Lib.hid hx
  have HC := Lib.hid hc
  have h1 := padded_any w.heap.size (.slice none 0 0) [] A extra c0 w (Row.nil _ _) rfl hA (by decide) hx (Nat.le_refl _)
  rw [List.nil_append] at h1
  have H1 := Lib.hid h1
  have HW := Lib.hid (pad_whole extra)
  have HL1 := Lib.hid (show (pad extra).length ≤ 16400 by rw [pad_len]; unfold padN; omega)
  have HL2 := Lib.hid (show (pad extra ++ pad c).length ≤ 33000 by rw [List.length_append, pad_len, pad_len]; unfold padN; omega)
  have HT := Lib.hid (show tagIn extra c = pad extra ++ pad c ++ le8 extra.length ++ le8 c.length by unfold tagIn; simp [List.append_assoc])
  rw [HT.out]
  clear hA hB hx hc h1 HT
  go_enter Try.func16, Try.ntmps16
  go_wp2_with fail
  refine H1.out.mono ?_
  clear H1
  rintro e w1 ⟨v1, rfl, r1, b1⟩
  have H2 := Lib.hid (padded_any w.heap.size v1 (pad extra) A' c c1 w1 r1 HW.out ((HB.out.below b1).more b1.size) (by have := HL1.out; omega) HC.out b1.size)
  have X1 := Lib.hid b1
  clear r1 b1
  go_wp2_with fail
  refine H2.out.mono ?_
  clear H2
  rintro e w2 ⟨v2, rfl, r2, b2⟩
  have X2 := Lib.hid (X1.out.trans b2)
  have H3 := Lib.hid (length_any w.heap.size v2 _ extra.length w2 r2 (by have := HL2.out; omega) HX.out X2.out.size)
  have HL3 := Lib.hid (show (pad extra ++ pad c ++ le8 extra.length).length ≤ 60000 by rw [List.length_append, le8_len]; have := HL2.out; omega)
  clear r2 b2
  go_wp2_with fail
  refine H3.out.mono ?_
  clear H3
  rintro e w3 ⟨v3, rfl, r3, b3⟩
  have X3 := Lib.hid (X2.out.trans b3)
  have H4 := Lib.hid (length_any w.heap.size v3 _ c.length w3 r3 HL3.out HC.out X3.out.size)
  clear r3 b3
  go_wp2_with fail
  refine H4.out.mono ?_
  clear H4
  rintro e w4 ⟨v4, rfl, r4, b4⟩
  have X4 := Lib.hid (X3.out.trans b4)
  have R4 := Lib.hid r4
  clear r4 b4
  go_wp2
  go_ret
  exact ⟨_, rfl, R4.out, X4.out⟩

/-- The tag's key, where nothing is wrong. -/
def onceM (key nonce extra : List UInt8) (n : Int) : List UInt8 := if wrongM key nonce extra n = 0 then (block key nonce 0).take 32 else []

set_option maxHeartbeats 8000000 in
set_option maxRecDepth 100000 in
theorem tagkey_any (A : Option Addr) (key : List UInt8) (c0 : Nat) (A' : Option Addr) (nonce : List UInt8) (c1 : Nat) (A2 : Option Addr) (extra : List UInt8) (c2 : Nat) (n : Int) (w : World)
    (hA : Bs w w.heap.size A key) (hc0 : key.length ≤ c0) (hk : key.length ≤ 140737488351232) (hB : Bs w w.heap.size A' nonce) (hc1 : nonce.length ≤ c1) (hn : nonce.length ≤ 140737488351232) :
    Calls Try.prog 13 #[.slice A key.length c0, .slice A' nonce.length c1, .slice A2 extra.length c2, .int .i64 n] w fun e w' => ∃ a d, e = .returned (.tuple #[.slice a (onceM key nonce extra n).length d, .int .i64 (wrongM key nonce extra n)]) ∧ (onceM key nonce extra n).length ≤ d ∧ Bs w' w'.heap.size a (onceM key nonce extra n) ∧ Below w.heap.size w w' := by
  have HBl := Lib.hid (StreamSumW.sblock_any A key c0 A' nonce c1 0 w hA hc0 hB hc1 hk hn (by decide) (by decide))
  obtain ⟨W, hW⟩ : ∃ W, wrongM key nonce extra n = W := ⟨_, rfl⟩
  obtain ⟨O, hO⟩ : ∃ O, onceM key nonce extra n = O := ⟨_, rfl⟩
  rw [hW, hO]
  unfold onceM at hO
  rw [hW] at hO
  unfold wrongM at hW
  by_cases h1 : key.length ≠ 32 ∨ nonce.length ≠ 12
  · rw [if_pos h1] at hW
    subst hW
    rw [if_neg (by decide)] at hO
    have hb := HBl.out
    unfold blockM at hb
    rw [if_pos h1] at hb
    have HB2 := Lib.hid hb
    subst hO
    clear hA hB hc0 hc1 hk hn h1 hb HBl
    go_enter Try.func13, Try.ntmps13
    go_wp2_with fail
    refine HB2.out.mono ?_
    clear HB2
    rintro e w1 ⟨a, d, rfl, -, -, b1⟩
    have X1 := Lib.hid b1
    clear b1
    go_wp2
    go_ret2
    exact ⟨none, 0, rfl, Nat.zero_le _, Bs.nil _ _ _, X1.out⟩
  · rw [if_neg h1] at hW
    have hb := HBl.out
    unfold blockM at hb
    rw [if_neg h1, if_neg (by decide)] at hb
    have HB2 := Lib.hid hb
    have hbl := block_len key nonce 0
    obtain ⟨K, hK⟩ : ∃ K, block key nonce 0 = K := ⟨_, rfl⟩
    rw [hK] at HB2 hO hbl
    have HKl := Lib.hid hbl
    obtain ⟨m, hm⟩ : ∃ m : Int, (if (extra.length : Int) < n then n else (extra.length : Int)) = m := ⟨_, rfl⟩
    by_cases h2 : 16384 < extra.length ∨ 16384 < n
    · rw [if_pos h2] at hW
      subst hW
      rw [if_neg (by decide)] at hO
      subst hO
      have tm : decide (m > 16384) = true := decide_eq_true (by rw [← hm]; split <;> omega)
      clear hA hB hc0 hc1 hk hn h1 hb HBl hbl hK h2
      go_enter Try.func13, Try.ntmps13
      go_wp2_with fail
      refine HB2.out.mono ?_
      clear HB2
      rintro e w1 ⟨a, d, rfl, -, -, b1⟩
      have X1 := Lib.hid b1
      clear b1
      go_wp2
      go_ret2
      exact ⟨none, 0, rfl, Nat.zero_le _, Bs.nil _ _ _, X1.out⟩
    · rw [if_neg h2] at hW
      subst hW
      rw [if_pos rfl] at hO
      have tm : decide (m > 16384) = false := decide_eq_false (by rw [← hm]; split <;> omega)
      have HOe := Lib.hid hO
      have HOl := Lib.hid (show O.length = 32 by rw [← hO, List.length_take, hbl]; rfl)
      clear hA hB hc0 hc1 hk hn h1 hb HBl hbl hK h2 hO
      go_enter Try.func13, Try.ntmps13
      go_wp2_with fail
      refine HB2.out.mono ?_
      clear HB2
      rintro e w1 ⟨a, d, rfl, hd, s1, b1⟩
      have X1 := Lib.hid b1
      have S1 := Lib.hid (s1.take 32)
      rw [HOe.out] at S1
      simp only [HKl.out] at hd ⊢
      obtain ⟨ad, rfl⟩ : ∃ ad, a = some ad := by
        obtain ⟨ad, h, _, _⟩ := s1.at_ (k := 0) (by simp only [HKl.out]; decide)
        exact ⟨ad, h⟩
      have hd32 : 32 ≤ d := by omega
      clear b1 s1
      go_wp2
      go_ret2
      exact ⟨some ad, d, by rw [HOl.out]; rfl, by rw [HOl.out]; exact hd32, S1.out, X1.out⟩
end Go.Proofs.Ytohpgfefdlccmaa.SealFnsW
