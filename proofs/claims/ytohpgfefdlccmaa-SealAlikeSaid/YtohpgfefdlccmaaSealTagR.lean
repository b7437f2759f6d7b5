/-
  ticketwardref.JTag: what it hands back. Conditions: lengths in the statement.
-/
import Derived.Test.YtohpgfefdlccmaaSealM
import Derived.Test.YtohpgfefdlccmaaStreamMix
import Derived.Test.YtohpgfefdlccmaaOneSum
import Derived.Test.YtohpgfefdlccmaaOneI
import Derived.Test.YtohpgfefdlccmaaKc
import Derived.Test.YtohpgfefdlccmaaOneA16
namespace Go.Proofs.Ytohpgfefdlccmaa.SealTagW
open Go.RowKit BytesW CellsW RowsW ArrW ArrG ArrL StreamM StreamBlockW OneM OneI OneA16 SealM

def sliceLen' : Value → Nat
  | .slice _ n _ => n
  | _ => 0
/-- The first rows, padded. -/
def preT (extra c : List UInt8) (k : Nat) : List UInt8 := (([extra, c].take k).map pad).flatten
theorem preT_zero (extra c : List UInt8) : preT extra c 0 = [] := rfl
theorem preT_two (extra c : List UInt8) : preT extra c 2 = pad extra ++ pad c := by simp [preT]
theorem preT_succ (extra c : List UInt8) (k : Nat) (h : k < [extra, c].length) : preT extra c (k + 1) = preT extra c k ++ pad [extra, c][k] := by
  unfold preT
  rw [List.take_succ_eq_append_getElem h, List.map_append, List.flatten_append]
  simp
theorem preT_whole (extra c : List UInt8) (k : Nat) : (preT extra c k).length % 16 = 0 := by
  have h1 := pad_whole extra
  have h2 := pad_whole c
  match k with
  | 0 => rfl
  | 1 => simpa [preT] using h1
  | k + 2 =>
    have : preT extra c (k + 2) = pad extra ++ pad c := by simp [preT]
    rw [this, List.length_append]
    omega
theorem preT_le (extra c : List UInt8) (k : Nat) (h1 : extra.length ≤ 16384) (h2 : c.length ≤ 16384) : (preT extra c k).length ≤ 33000 := by
  have e1 := pad_len extra
  have e2 := pad_len c
  unfold padN at e1 e2
  match k with
  | 0 => simp [preT]
  | 1 => simp [preT]; omega
  | k + 2 =>
    have : preT extra c (k + 2) = pad extra ++ pad c := by simp [preT]
    rw [this, List.length_append]
    omega
/-- .. and the numbers of their bytes. -/
def sumT (extra c : List UInt8) (k : Nat) : List UInt8 := preT extra c 2 ++ (([extra.length, c.length].take k).map le8).flatten
theorem sumT_zero (extra c : List UInt8) : sumT extra c 0 = preT extra c 2 := by simp [sumT]
theorem sumT_two (extra c : List UInt8) : sumT extra c 2 = tagIn extra c := by simp [sumT, tagIn, preT_two]
theorem sumT_succ (extra c : List UInt8) (k : Nat) (h : k < [extra.length, c.length].length) : sumT extra c (k + 1) = sumT extra c k ++ le8 [extra.length, c.length][k] := by
  unfold sumT
  rw [List.take_succ_eq_append_getElem h, List.map_append, List.flatten_append]
  simp
theorem sumT_le (extra c : List UInt8) (k : Nat) (h1 : extra.length ≤ 16384) (h2 : c.length ≤ 16384) : (sumT extra c k).length ≤ 34000 := by
  have h3 := preT_le extra c 2 h1 h2
  unfold sumT
  rw [List.length_append]
  match k with
  | 0 => simp; omega
  | 1 => simp [le8_len]; omega
  | k + 2 => simp [le8_len]; omega
theorem le8_take (N j : Nat) (h : j < 8) : (le8 N).take (j + 1) = (le8 N).take j ++ [UInt8.ofNat (N / 256 ^ j)] := by
  rw [List.take_succ_eq_append_getElem (by rw [le8_len]; exact h)]
  congr 1
  simp [le8]
theorem rep_succ (P r : List UInt8) (j : Nat) : P ++ r ++ List.replicate j 0 ++ [0] = P ++ r ++ List.replicate (j + 1) 0 := by
  rw [List.replicate_succ', ← List.append_assoc]

set_option maxHeartbeats 8000000 in
set_option maxRecDepth 100000 in
theorem jtag_any (A : Option Addr) (key : List UInt8) (c0 : Nat) (A' : Option Addr) (nonce : List UInt8) (c1 : Nat) (A2 : Option Addr) (extra : List UInt8) (c2 : Nat) (A3 : Option Addr) (c : List UInt8) (c3 : Nat) (w : World)
    (hA : Bs w w.heap.size A key) (hk : key.length = 32) (hB : Bs w w.heap.size A' nonce) (hn : nonce.length = 12) (hC : Bs w w.heap.size A2 extra) (hc2 : extra.length ≤ c2) (hx : extra.length ≤ 16384) (hD : Bs w w.heap.size A3 c) (hc3 : c.length ≤ c3) (hcl : c.length ≤ 16384) :
    Calls Try.prog 19 #[.slice A key.length c0, .slice A' nonce.length c1, .slice A2 extra.length c2, .slice A3 c.length c3] w fun e w' => ∃ g, e = .returned (.slice (some ⟨g, 0, none⟩) 16 16) ∧ Arr w' g 33 (Lib.byteCells (jtag key nonce extra c)) ∧ w.heap.size ≤ g ∧ Below w.heap.size w w' := by
  have HA := Lib.hid hA
  have HB := Lib.hid hB
  have HK := Lib.hid hk
  have HN := Lib.hid hn
  have HC := Lib.hid hC
  have HD := Lib.hid hD
  clear hA hB hC hD hk hn
  go_enter Try.func19, Try.ntmps19
  go_upto_region 3 with (fail)
  generalize hW : World.alloc _ _ = W
  have hm : Ms W W.heap.size (some ⟨w.heap.size, 0, none⟩) [extra, c] := by
    subst hW
    have h := Ms.laid2 w A2 A3 extra c _ _ c2 c3 rfl rfl HC.out HD.out hc2 hc3 (0, 0) (w.heap.size + 1) (by omega)
    simpa using h
  obtain ⟨-, bW, zW⟩ := start1 hW
  obtain ⟨ad0, had0⟩ : ∃ a : Addr, (⟨w.heap.size, 0, none⟩ : Addr) = a := ⟨_, rfl⟩
  rw [had0] at hm
  simp only [had0]
  obtain ⟨β, hβ⟩ : ∃ β, W.heap.size = β := ⟨_, rfl⟩
  rw [hβ] at hm zW
  have HM := Lib.hid hm
  have BW := Lib.hid bW
  have ZW := Lib.hid zW
  have Hβ := Lib.hid hβ
  clear hm bW zW hW had0 hβ
  go_wp2
  go_loopw [9, 19] (fun va vi wr => ∃ k : Nat, k ≤ 2 ∧ vi = .int .i64 (k : Int) ∧ Row β wr va (preT extra c k) ∧ Below β W wr) (fun _ vi _ => 2 - (intOf vi).toNat)
  case atStart => exact ⟨0, by omega, rfl, Row.nil _ _, Below.refl _ _⟩
  case round =>
    obtain ⟨k, hk, rfl, rk, bk⟩ := hrel
    have RK := Lib.hid rk
    have BK := Lib.hid bk
    have HSz := Lib.hid (show β ≤ wr.heap.size by rw [← Hβ.out]; exact bk.size)
    by_cases hlt : k < 2
    · have ct : decide ((k : Int) < 2) = true := decide_eq_true (by omega)
      obtain ⟨ad, a, ck, hade, hadb, hcell, hbs, hle⟩ := (HM.out.below BK.out).at_ (k := k) (by simpa using hlt)
      cases hade
      have hrl : ([extra, c][k]'(by simpa using hlt)).length ≤ 16384 := by
        match k, hlt with
        | 0, _ => exact hx
        | 1, _ => exact hcl
      have hps := preT_succ extra c k (by simpa using hlt)
      have hpw := preT_whole extra c k
      have hpl := preT_le extra c k hx hcl
      obtain ⟨P, hP⟩ : ∃ P, preT extra c k = P := ⟨_, rfl⟩
      rw [hP] at RK hps hpw hpl
      generalize [extra, c][k]'(by simpa using hlt) = r at *
      have HBs := Lib.hid hbs
      have HPs := Lib.hid hps
      have HPw := Lib.hid hpw
      have HPl := Lib.hid hpl
      have HRl := Lib.hid hrl
      clear rk bk hbs hps hpw hpl hP hrl
      go_wp2_with (at_builtin; go_must (refine appN rfl (.tmp 23) (.tmp 24) rfl β _ _ P rfl RK.out a r ck rfl HBs.out (by have := HPl.out; have := HRl.out; omega) HSz.out ?_))
      intro v2 w2 r2 b2
      have R20 : Hid (Row β w2 v2 (P ++ r ++ List.replicate 0 0)) := Lib.hid (by simpa using r2)
      have B20 := Lib.hid (BK.out.trans b2)
      clear r2 b2
      go_wp2
      go_loopw [9] (fun va wx => ∃ j : Nat, j ≤ padN r.length ∧ Row β wx va (P ++ r ++ List.replicate j 0) ∧ Below β W wx) (fun va _ => 100000 - sliceLen' va)
      case atStart => exact ⟨0, Nat.zero_le _, R20.out, B20.out⟩
      case round =>
        clear R20 B20
        obtain ⟨j, hj, rj, bj⟩ := hrel
        obtain ⟨A5, c5, rfl, s5, hc5⟩ := rj.form2
        have RJ := Lib.hid rj
        have BJ := Lib.hid bj
        have hsz5 : β ≤ wr.heap.size := by rw [← Hβ.out]; exact bj.size
        have hpd : padN r.length < 16 := Nat.mod_lt _ (by decide)
        obtain ⟨N, hN⟩ : ∃ N, (P ++ r ++ List.replicate j 0).length = N := ⟨_, rfl⟩
        have hNe : N = P.length + r.length + j := by rw [← hN]; simp; omega
        have hNl : N ≤ 60000 := by have := HPl.out; have := HRl.out; omega
        rw [hN] at RJ ⊢
        obtain ⟨t, ht⟩ : ∃ t, N % 16 = t := ⟨_, rfl⟩
        have m1 : (N : Int).tmod 16 = (t : Int) := by rw [Int.tmod_eq_emod_of_nonneg (by omega)]; omega
        have m2 : (N : Int) % 16 = (t : Int) := by omega
        have hsz6 := Lib.hid hsz5
        by_cases hjl : j < padN r.length
        · have tp : (0 : Int) < (t : Int) := by
            have h1 := HPw.out
            unfold padN at hjl
            omega
          have tt : decide ((0 : Int) < (t : Int)) = true := decide_eq_true tp
          have ra := Lib.hid (RJ.out.alloc (.cells #[.int .u8 0] 5))
          have nb := Lib.hid (show (wr.alloc (.cells #[.int .u8 0] 5)).cell? ⟨wr.heap.size, 0, none⟩ = some (.int .u8 (((0 : UInt8).toNat : Nat) : Int)) from new_cell wr (.int .u8 0) 5)
          have ba := Lib.hid ((Below.refl wr.heap.size wr).alloc (Nat.le_refl _) (.cells #[.int .u8 0] 5))
          have HN := Lib.hid hN
          have hJl := Lib.hid hjl
          clear rj bj s5 hc5 hN hNe ht hj hjl hpd
          go_wp2_with (at_builtin; go_must (refine app1 rfl (.tmp 30) (.tmp 31) rfl β _ _ rfl ra.out ⟨wr.heap.size, 0, none⟩ 1 0 rfl nb.out (by rw [HN.out]; omega) (Nat.le_trans hsz6.out ba.out.size) ?_))
          intro v6 w6 r6 b6
          have r6' : Row β w6 v6 (P ++ r ++ List.replicate (j + 1) 0) := by simpa [List.replicate_succ', List.append_assoc] using r6
          have R6 := Lib.hid r6'
          have B6 := Lib.hid (BJ.out.trans ((ba.out.mono hsz6.out).trans b6))
          have hlen6 : sliceLen' v6 = N + 1 := by
            obtain ⟨A7, c7, rfl, -, -⟩ := r6.form2
            have := HN.out
            simp at this
            simp [sliceLen']
            omega
          have HL6 := Lib.hid hlen6
          clear r6 r6' b6 hlen6
          go_wp2
          go_roundw
          case rel => exact ⟨j + 1, hJl.out, R6.out, B6.out⟩
          case measure => rw [HL6.out]; simp [sliceLen']; omega
        · have hje : j = padN r.length := by omega
          have ht0 : t = 0 := by
            have h1 := HPw.out
            unfold padN at hje
            omega
          rw [ht0] at m1 m2
          have m3 : (N : Int).tmod 16 = 0 := m1
          have m4 : (N : Int) % 16 = 0 := m2
          clear m1 m2 ht0
          subst hje
          have hfin : P ++ r ++ List.replicate (padN r.length) 0 = preT extra c (k + 1) := by rw [HPs.out, List.append_assoc]; rfl
          have rf := RJ.out
          have hNf : (preT extra c (k + 1)).length = N := by rw [← hfin]; exact hN
          rw [hfin] at rf
          have RF := Lib.hid rf
          clear rj bj s5 hc5 hN hNe ht hj hjl hpd hfin rf hNf
          go_wp2
          go_roundw
          case rel => exact ⟨k + 1, by omega, by go_num, RF.out, BJ.out⟩
          case measure => simp [intOf]; omega
    · have hk2 : k = 2 := by omega
      have ct : decide ((k : Int) < 2) = false := decide_eq_false (by omega)
      rw [hk2] at rk
      have RK := Lib.hid rk
      clear rk bk hk2
      go_upto_region 10 with (fail)
      generalize hV : World.alloc _ _ = V
      obtain ⟨q2, b2, z2⟩ := start1 hV
      have q2' : Arr V wr.heap.size 3 (ic [extra.length, c.length]) := q2
      obtain ⟨g2, hg2⟩ : ∃ g, wr.heap.size = g := ⟨_, rfl⟩
      have HG2 := Lib.hid hg2
      have R0 : Hid (Row β V u9 (sumT extra c 0)) := Lib.hid (by rw [sumT_zero]; exact RK.out.below b2)
      have S0 : Hid (u9.ownBlock ≠ some g2) := Lib.hid (fun e => by
        have := (World.ownsRow.lt RK.out g2 e).2
        omega)
      have B0 := Lib.hid (BK.out.trans (b2.mono HSz.out))
      rw [hg2] at q2' HSz ⊢
      have Q2 := Lib.hid q2'
      clear q2 q2' b2 z2 hV RK BK hg2 HG2
      go_wp2
      go_loopw [9, 40] (fun va vi wx => ∃ k : Nat, k ≤ 2 ∧ vi = .int .i64 (k : Int) ∧ Row β wx va (sumT extra c k) ∧ va.ownBlock ≠ some g2 ∧ Arr wx g2 3 (ic [extra.length, c.length]) ∧ Below β W wx) (fun _ vi _ => 2 - (intOf vi).toNat)
      case atStart => exact ⟨0, by omega, rfl, R0.out, S0.out, Q2.out, B0.out⟩
      case round =>
        clear R0 S0 Q2 B0 ct
        obtain ⟨k, hk, rfl, rk, sk, qk, bk⟩ := hrel
        have RK := Lib.hid rk
        have BK := Lib.hid bk
        have SK := Lib.hid sk
        have QK := Lib.hid qk
        clear rk sk bk
        by_cases hlt : k < 2
        · have ct : decide ((k : Int) < 2) = true := decide_eq_true (by omega)
          have hkl : k < [extra.length, c.length].length := by simpa using hlt
          have cN := qk.cell k
          rw [ic_getD _ k hkl] at cN
          have hge : [extra.length, c.length].getD k 0 = [extra.length, c.length][k] := by rw [List.getD_eq_getElem?_getD, List.getElem?_eq_getElem hkl]; rfl
          have hNl : [extra.length, c.length][k] ≤ 16384 := by
            match k, hlt with
            | 0, _ => exact hx
            | 1, _ => exact hcl
          have hsu := sumT_succ extra c k hkl
          have hsl := sumT_le extra c k hx hcl
          obtain ⟨N, hN⟩ : ∃ N, [extra.length, c.length][k] = N := ⟨_, rfl⟩
          rw [hge, hN] at cN
          rw [hN] at hNl hsu
          obtain ⟨S, hS⟩ : ∃ S, sumT extra c k = S := ⟨_, rfl⟩
          rw [hS] at RK hsu hsl
          have ik : (k : Int) < 2 := by omega
          have HSu := Lib.hid hsu
          have HSl := Lib.hid hsl
          have RK0 : Hid (Row β wr u9 (S ++ (le8 N).take 0)) := Lib.hid (by rw [List.take_zero, List.append_nil]; exact RK.out)
          have HN0 := Lib.hid (Nat.div_one N)
          clear hsu hsl hS hge hN hkl qk RK
          go_wp2
          clear cN
          go_loopw [9, 13, 44] (fun va vn vj wx => ∃ j : Nat, j ≤ 8 ∧ vj = .int .i64 (j : Int) ∧ vn = .int .i64 ((N / 256 ^ j : Nat) : Int) ∧ Row β wx va (S ++ (le8 N).take j) ∧ va.ownBlock ≠ some g2 ∧ Arr wx g2 3 (ic [extra.length, c.length]) ∧ Below β W wx) (fun _ _ vj _ => 8 - (intOf vj).toNat)
          case atStart => exact ⟨0, by omega, rfl, by rw [Nat.pow_zero, HN0.out], RK0.out, SK.out, QK.out, BK.out⟩
          case round =>
            clear RK0 SK QK BK HN0
            obtain ⟨j, hj, rfl, rfl, rj, sj, qj, bj⟩ := hrel
            have RJ := Lib.hid rj
            have BJ := Lib.hid bj
            have SJ := Lib.hid sj
            have QJ := Lib.hid qj
            have HZj := Lib.hid (show β ≤ wr.heap.size by rw [← Hβ.out]; exact bj.size)
            clear rj sj qj bj
            by_cases hlj : j < 8
            · have cj : decide ((j : Int) < 8) = true := decide_eq_true (by omega)
              have htk := le8_take N j hlj
              obtain ⟨y, hy⟩ : ∃ y, UInt8.ofNat (N / 256 ^ j) = y := ⟨_, rfl⟩
              have hdd : N / 256 ^ (j + 1) = N / 256 ^ j / 256 := by rw [Nat.pow_succ, Nat.div_div_eq_div_mul]
              have hMl : N / 256 ^ j ≤ N := Nat.div_le_self _ _
              obtain ⟨M, hM⟩ : ∃ M, N / 256 ^ j = M := ⟨_, rfl⟩
              rw [hM] at hdd hy hMl ⊢
              obtain ⟨M2, hM2⟩ : ∃ M2, M / 256 = M2 := ⟨_, rfl⟩
              rw [hM2] at hdd
              have wy : IntKind.u8.wrap (M : Int) = (y.toNat : Int) := by rw [← hy, UInt8.toNat_ofNat', IntKind.wrap_u8]; omega
              have d1 : (M : Int).tdiv 256 = (M2 : Int) := by rw [Int.tdiv_eq_ediv_of_nonneg (by omega)]; omega
              have d2 : (M : Int) / 256 = (M2 : Int) := by omega
              have wM : IntKind.i64.wrap (M2 : Int) = (M2 : Int) := IntWalk.i64_in _ (by omega)
              rw [show UInt8.ofNat (N / 256 ^ j) = y by rw [hM]; exact hy] at htk
              have HTk := Lib.hid htk
              have HDd := Lib.hid hdd
              have ra := Lib.hid (RJ.out.alloc (.cells #[.int .u8 (y.toNat : Int)] 5))
              have nb := Lib.hid (new_cell wr (.int .u8 (y.toNat : Int)) 5)
              have ba := Lib.hid ((Below.refl wr.heap.size wr).alloc (Nat.le_refl _) (.cells #[.int .u8 (y.toNat : Int)] 5))
              have HLb := Lib.hid (show (S ++ (le8 N).take j).length + 1 ≤ 140737488355328 by rw [List.length_append, List.length_take, le8_len]; have := HSl.out; omega)
              have HLj := Lib.hid hlj
              clear htk hdd hy hM hM2 hj
              go_wp2_with (at_builtin; go_must (refine app1g rfl (.tmp 46) (.tmp 49) rfl β _ _ rfl ra.out ⟨wr.heap.size, 0, none⟩ 1 y rfl nb.out HLb.out (Nat.le_trans HZj.out ba.out.size) ?_))
              intro v6 w6 r6 g6 o6
              have r6' : Row β w6 v6 (S ++ (le8 N).take (j + 1)) := by rw [HTk.out]; simpa [List.append_assoc] using r6
              have q6 := (QJ.out.below ba.out QJ.out.lt)
              have Q6 := Lib.hid (show Arr w6 g2 3 (ic [extra.length, c.length]) from (g6.block g2 q6.lt (fun e => SJ.out e.symm)).trans q6)
              have S6 := Lib.hid (show v6.ownBlock ≠ some g2 from fun e => by
                rcases o6 with h | h
                · rw [h] at e; exact SJ.out e
                · have h1 := h _ e
                  have h2 := QJ.out.lt
                  have h3 := ba.out.size
                  omega)
              have B6 := Lib.hid ((BJ.out.trans (ba.out.mono HZj.out)).trans (Row.below_own ra.out g6 (Nat.le_trans HZj.out ba.out.size)))
              have R6 := Lib.hid r6'
              clear r6 r6' g6 o6 q6
              go_wp2
              go_roundw
              case rel => exact ⟨j + 1, by have := HLj.out; omega, by go_num, by rw [HDd.out], R6.out, S6.out, Q6.out, B6.out⟩
              case measure => have := HLj.out; simp [intOf]; omega
            · obtain rfl : j = 8 := by omega
              have cj : decide (((8 : Nat) : Int) < 8) = false := rfl
              have rf := RJ.out
              rw [List.take_of_length_le (by rw [le8_len]; exact Nat.le_refl _), ← HSu.out] at rf
              have RF := Lib.hid rf
              clear rf
              go_wp2
              go_roundw
              case rel => exact ⟨k + 1, by omega, by go_num, RF.out, SJ.out, QJ.out, BJ.out⟩
              case measure => simp [intOf]; omega
        · obtain rfl : k = 2 := by omega
          have ct : decide (((2 : Nat) : Int) < 2) = false := rfl
          have rf := RK.out
          rw [sumT_two] at rf
          have RF := Lib.hid rf
          have hwz : w.heap.size ≤ W.heap.size := by rw [Hβ.out, ZW.out]; omega
          have hwβ : w.heap.size ≤ β := by rw [← Hβ.out]; exact hwz
          have BWx := Lib.hid (BW.out.trans (BK.out.mono hwβ))
          have hbl := hblock_any A key c0 A' nonce c1 0 wr ((HA.out.below BWx.out).more BWx.out.size) HK.out ((HB.out.below BWx.out).more BWx.out.size) HN.out
          have HBo := Lib.hid hbl
          clear rf hbl RK SK qk QK hwz hwβ
          go_wp2_with fail
          refine HBo.out.mono ?_
          clear HBo
          rintro e V1 ⟨v9, rfl, r9, b9⟩
          obtain ⟨A9, c9, rfl, s9, hc9⟩ := r9.form2
          rw [block_len] at hc9 ⊢
          obtain ⟨g9, rfl, -, -, -, -, -⟩ := r9.place (by rw [block_len]; decide)
          obtain ⟨A8, c8, rfl, s8, hc8⟩ := RF.out.form2
          have BX1 := Lib.hid (BWx.out.trans (b9.mono BWx.out.size))
          have hle := tagIn_le extra c hx hcl
          have hk32 : ((block key nonce 0).take 32).length = 32 := by rw [List.length_take, block_len]; decide
          have his := OneSumW.isum_any (some ⟨g9, 0, none⟩) ((block key nonce 0).take 32) c9 A8 (tagIn extra c) c8 V1 (s9.take 32) (by rw [hk32]; omega) hk32 ((s8.below b9).more b9.size) hc8 (by omega)
          rw [hk32] at his
          have HIs : Hid (Calls Try.prog 33 #[.slice (some ⟨g9, 0, none⟩) 32 c9, .slice A8 (tagIn extra c).length c8] V1 fun e w' => e = .returned (.agg (Lib.byteCells (jtag key nonce extra c)).toArray) ∧ Below V1.heap.size V1 w') := Lib.hid his
          have N16 := Lib.hid (show (Lib.byteCells (jtag key nonce extra c)).length = 16 by rw [Lib.byteCells_length, jtag_len])
          have hc32 : 32 ≤ c9 := by omega
          obtain ⟨J, hJ⟩ : ∃ J, jtag key nonce extra c = J := ⟨_, rfl⟩
          have HJ := Lib.hid hJ
          rw [hJ] at HIs N16
          clear r9 b9 s9 s8 hc9 his hk32 hJ hle
          go_wp2_with fail
          refine HIs.out.mono ?_
          clear HIs
          rintro e V2 ⟨rfl, b2⟩
          have BX2 := Lib.hid (BX1.out.trans (b2.mono BX1.out.size))
          clear b2 BX1
          go_upto_region 19 with (show wpList _ _ _ (⟨_, Op.store _ _ _, _, _, _, _⟩ :: _) _ _; refine Arr.storeL (Arr.new V2 _ _) rfl 33 (.tmp 14) (.tmp 60) rfl rfl (Lib.byteCells J) rfl a16_size (by rfl) N16.out (bytes_one _) ?_)
          generalize hw7 : World.setRow _ _ _ = w7
          obtain ⟨p9, b7, z7⟩ := filled hw7
          have X7 := Lib.hid (BX2.out.trans (b7.mono BX2.out.size))
          have HLe := Lib.hid BX2.out.size
          have P9 := Lib.hid p9
          clear b7 hw7 p9 z7
          go_wp2
          go_ret
          exact ⟨_, rfl, by rw [HJ.out]; exact P9.out, HLe.out, X7.out⟩
end Go.Proofs.Ytohpgfefdlccmaa.SealTagW
