/-
  ticketwardref.ACode: it hands back what text.Code does. Conditions: the slice has at most 2^20 bytes.
-/
import Derived.Test.YtnbchnaehmbfcaaTextR
import Derived.Test.YtnbchnaehmbfcaaCellsW
import Derived.Test.YtnbchnaehmbfcaaRefHex
import Derived.Test.YtnbchnaehmbfcaaRefUncode
import Derived.Test.YtnbchnaehmbfcaaTextCode
namespace Go.Proofs.Ytnbchnaehmbfcaa.RefCodeW
open Go.RowKit BytesW CellsW

def cellsOf (l : List Nat) : List Value := l.map fun (n : Nat) => Value.int .i64 (n : Int)
theorem cellsOf_length (l : List Nat) : (cellsOf l).length = l.length := by simp [cellsOf]
theorem cellsOf_append (a b : List Nat) : cellsOf (a ++ b) = cellsOf a ++ cellsOf b := by simp [cellsOf]
theorem infoInt : (Try.prog.info? 3).map (fun i => (i.zero, i.size, i.bytes)) = some (some (.int .i64 0), 1, 8) := by kernel_rfl

theorem grp_length (l : List Nat) : (TextR.grp l).length ≤ l.length := by
  induction l using TextR.grp.induct with
  | case1 p q r s t u v ih => simp [TextR.grp]; omega
  | case2 l hl =>
    unfold TextR.grp
    split
    · rename_i a b c d e f r; exact absurd rfl (hl a b c d e f r)
    · simp

/-- The letter of V, once the search has come behind it. -/
def seen (V k : Nat) : List UInt8 := if (TextN.let_ V).toNat < k then [TextN.let_ V] else []
theorem seen_zero (V : Nat) : seen V 0 = [] := rfl
theorem let_small_fin : ∀ n : Fin 64, (TextN.let_ n.val).toNat < 128 := by decide +kernel
theorem seen_all (V : Nat) (h : V < 64) : seen V 128 = [TextN.let_ V] := if_pos (let_small_fin ⟨V, h⟩)

theorem found (V : Nat) (hV : V < 64) (k : Nat) (hk : k < 128) :
    (TextN.num (UInt8.ofNat k) = some V → seen V k = [] ∧ seen V (k + 1) = [UInt8.ofNat k]) ∧ (¬ TextN.num (UInt8.ofNat k) = some V → seen V (k + 1) = seen V k) := by
  have hkk : (UInt8.ofNat k).toNat = k := by rw [UInt8.toNat_ofNat']; omega
  constructor
  · intro h
    have e := TextN.let_num h
    unfold seen
    rw [e, hkk, if_neg (by omega), if_pos (by omega)]
    exact ⟨rfl, rfl⟩
  · intro h
    have hne : (TextN.let_ V).toNat ≠ k := by
      intro e
      apply h
      rw [← e, UInt8.ofNat_toNat, TextN.num_let V hV]
    unfold seen
    by_cases h1 : (TextN.let_ V).toNat < k
    · rw [if_pos h1, if_pos (by omega)]
    · rw [if_neg h1, if_neg (by omega)]

theorem letter_nat_some (k V : Nat) (hk : k < 256) (h : TextN.num (UInt8.ofNat k) = some V) (w : World) :
    Calls Try.prog 26 #[.int .u8 (k : Int)] w fun e w' => e = .returned (.int .i64 (V : Int)) ∧ w = w' := by
  have := RefUncodeW.letter_some (UInt8.ofNat k) V h w
  rwa [show (UInt8.ofNat k).toNat = k from by rw [UInt8.toNat_ofNat']; omega] at this

theorem letter_nat_none (k : Nat) (hk : k < 256) (h : TextN.num (UInt8.ofNat k) = none) (w : World) :
    Calls Try.prog 26 #[.int .u8 (k : Int)] w fun e w' => e = .returned (.int .i64 (-1)) ∧ w = w' := by
  have := RefUncodeW.letter_none (UInt8.ofNat k) h w
  rwa [show (UInt8.ofNat k).toNat = k from by rw [UInt8.toNat_ofNat']; omega] at this

theorem add_enc (p : List UInt8) (k : Nat) (hp : p.length ≤ 4398046511104) (h : k < 128) (w : World) :
    ∃ E, Utf8.encode (k : Int) = E ∧ (Op.stringOp .add ⟨p.toArray⟩ E).run Try.prog w = .ok (.string ⟨(p ++ [UInt8.ofNat k]).toArray⟩) w := by
  refine ⟨_, rfl, ?_⟩
  have e := RefHexW.cat_enc p (k : Int) k rfl (by omega)
  have hs := encode_size_le (k : Int)
  have hz : (⟨p.toArray⟩ : ByteArray).size = p.length := by simp [ByteArray.size]
  rw [← e]
  exact run_string_add_sum (P := Try.prog) (w := w) ⟨p.toArray⟩ (Utf8.encode (k : Int)) (by omega)

theorem bit_val (c : UInt8) (m : Nat) : [Value.int .i64 (bits BinOp.and IntKind.i64 ((c.toNat : Int) / 2 ^ (7 - m)) 1)] = cellsOf [TextR.bit c.toNat m] := by
  have h := Bits.and1_i64 (c.toNat / 2 ^ (7 - m)) (Nat.lt_of_le_of_lt (Nat.div_le_self _ _) (by have := c.toNat_lt; omega))
  have e : ((c.toNat / 2 ^ (7 - m) : Nat) : Int) = (c.toNat : Int) / 2 ^ (7 - m) := by
    rw [Int.natCast_ediv, Int.natCast_pow]; rfl
  rw [e] at h
  rw [h]
  rfl

set_option maxHeartbeats 4000000 in
set_option maxRecDepth 100000 in
theorem code_ref (A : Option Addr) (l : List UInt8) (c : Nat) (w : World) (hA : Bs w w.heap.size A l) (hl : l.length ≤ 1048576) :
    Calls Try.prog 18 #[.slice A l.length c] w fun e w' => e = .returned (.string ⟨(TextN.code l).toArray⟩) ∧ Below w.heap.size w w' := by
  have hG := Lib.hid (TextR.grp_code l)
  have hbl := Lib.hid (TextR.bitsOf_length l)
  go_enter Try.func18, Try.ntmps18
  go_wp2
  -- the bits
  go_loopw [3, 15] (fun v i wr => ∃ k : Nat, k ≤ l.length ∧ i = .int .i64 k ∧ VRow 3 w.heap.size wr v (cellsOf (TextR.bitsOf (l.take k))) ∧ Below w.heap.size w wr) (fun _ i _ => l.length - (intOf i).toNat)
  case atStart => exact ⟨0, Nat.zero_le _, rfl, by rw [List.take_zero]; exact VRow.nil _ _ _, Below.refl _ _⟩
  case round =>
    obtain ⟨k, hk, rfl, hrow, hb⟩ := hrel
    by_cases hlt : k < l.length
    · obtain ⟨ad, rfl, hbd, hc⟩ := (hA.below hb).at_ hlt
      have hx := l[k].toNat_lt
      have HC := Lib.hid (TextR.bitsOf_take l k hlt)
      have hlen := TextR.bitsOf_length (l.take k)
      rw [List.length_take, Nat.min_eq_left hk] at hlen
      generalize hc0 : l[k] = c0 at *
      clear hA hc0
      generalize TextR.bitsOf (l.take k) = bs at *
      go_wp2
      go_loopw [3, 6] (fun v j w2 => ∃ m : Nat, m ≤ 8 ∧ j = .int .i64 (7 - (m : Int)) ∧ VRow 3 w.heap.size w2 v (cellsOf (bs ++ (TextR.bits8 c0).take m)) ∧ Below w.heap.size w w2) (fun _ j _ => (1 + intOf j).toNat)
      case atStart => exact ⟨0, by omega, rfl, by simpa using hrow, hb⟩
      case round =>
        clear hrow hb
        obtain ⟨m, hm, rfl, hrow, hb⟩ := hrel
        by_cases hlt8 : m < 8
        · have HB := Lib.hid (TextR.bits8_take c0 m hlt8)
          have hB := hb.size
          have HE := Lib.hid (bit_val c0 m)
          have hl2 : ((cellsOf (bs ++ (TextR.bits8 c0).take m)).length + 1) * 8 ≤ 140737488355328 := by rw [cellsOf_length, List.length_append, List.length_take]; omega
          have hnew := new_cell wr (.int .i64 (bits BinOp.and IntKind.i64 (↑c0.toNat / 2 ^ (7 - m)) 1)) 3
          go_wp2_with (at_builtin; go_must (refine vapp1 rfl (.tmp 23) (.tmp 29) 49 3 (.int .i64 0) 8 Try.underlying49 infoInt rfl rfl w.heap.size _ _ rfl (hrow.alloc _) ⟨wr.heap.size, 0, none⟩ 1 _ rfl hnew rfl hl2 (by omega) (by simp; omega) ?_))
          intro v' w' hrow' hb'
          clear hnew
          go_wp2
          go_roundw
          case rel => exact ⟨m + 1, by omega, by go_num, by rw [HB.out, ← List.append_assoc, cellsOf_append, ← HE.out]; exact hrow', (hb.alloc hB _).trans hb'⟩
          case measure => simp [intOf]; omega
        · obtain rfl : m = 8 := by omega
          have h8 : (TextR.bits8 c0).take 8 = TextR.bits8 c0 := rfl
          rw [h8] at hrow
          go_wp2
          go_roundw
          case rel => exact ⟨k + 1, by omega, by go_num, by rw [HC.out]; exact hrow, hb⟩
          case measure => simp [intOf]; omega
    · obtain rfl : k = l.length := by omega
      rw [List.take_length] at hrow
      clear hk hlt hA
      have hbits := TextR.bitsOf_lt l
      have hL := hbl.out
      have hLb : (TextR.bitsOf l).length ≤ 8388608 := by omega
      generalize TextR.bitsOf l = bs at *
      clear hL
      go_wp2
      -- noughts behind
      go_loopw [3] (fun v w2 => ∃ p : Nat, p ≤ TextR.short bs.length ∧ VRow 3 w.heap.size w2 v (cellsOf (bs ++ List.replicate p 0)) ∧ Below w.heap.size w w2) (fun v _ => (6 - TextCodeW.sliceLen v % 6) % 6)
      case atStart => exact ⟨0, by omega, by simpa using hrow, hb⟩
      case round =>
        clear hrow hb
        obtain ⟨p, hp, hrow, hb⟩ := hrel
        obtain ⟨A3, c3, rfl, hV, hcap⟩ := hrow.form
        have hN : (cellsOf (bs ++ List.replicate p 0)).length = bs.length + p := by rw [cellsOf_length, List.length_append, List.length_replicate]
        have hB := hb.size
        have hs6 : TextR.short bs.length = (6 - bs.length % 6) % 6 := rfl
        have hsnoc : cellsOf (bs ++ List.replicate p 0) ++ [.int .i64 0] = cellsOf (bs ++ List.replicate (p + 1) 0) := by
          rw [List.replicate_succ', ← List.append_assoc, cellsOf_append (bs ++ List.replicate p 0)]; rfl
        generalize hxs : cellsOf (bs ++ List.replicate p 0) = xs at *
        generalize hxl : xs.length = N at *
        have HX := Lib.hid hxl; clear hxl
        have hNb : N ≤ 8388613 := by omega
        have HN := Lib.hid hN
        have H6 := Lib.hid hs6
        have hlt6' : p < TextR.short bs.length → ((N : Int) % 6 != 0) = true := fun h => by rw [bne_iff_ne]; omega
        have hge6' : ¬ p < TextR.short bs.length → ((N : Int) % 6 != 0) = false := fun h => by simp; omega
        have HL := Lib.hid hlt6'
        have HG := Lib.hid hge6'
        clear hN hs6 hlt6' hge6'
        by_cases hlt6 : p < TextR.short bs.length
        · have ht := HL.out hlt6
          have HS := Lib.hid hsnoc; clear hsnoc
          have hl2 : (N + 1) * 8 ≤ 140737488355328 := by omega
          have hnew := new_cell wr (.int .i64 0) 3
          go_wp2_with (at_builtin; go_must (refine vapp1 rfl (.tmp 36) (.tmp 37) 49 3 (.int .i64 0) 8 Try.underlying49 infoInt rfl rfl w.heap.size _ xs rfl (hrow.alloc _) ⟨wr.heap.size, 0, none⟩ 1 _ rfl hnew rfl (by rw [HX.out]; exact hl2) (by rw [HX.out]; omega) (by simp; omega) ?_))
          intro v' w' hrow' hb'
          clear hnew
          go_wp2
          obtain ⟨A', c', rfl, _, _⟩ := hrow'.form
          go_roundw
          case rel => exact ⟨p + 1, by omega, by rw [← HS.out]; exact hrow', (hb.alloc hB _).trans hb'⟩
          case measure =>
            have h6 : ¬ (N : Int) % 6 = 0 := by simpa using ht
            simp only [TextCodeW.sliceLen, List.length_append, List.length_singleton, HX.out]
            omega
        · have hpad : TextR.pad bs = bs ++ List.replicate p 0 := by unfold TextR.pad; rw [show p = TextR.short bs.length by omega]
          have ht := HG.out hlt6
          have hN6 : N % 6 = 0 := by have h6 : (N : Int) % 6 = 0 := by simpa using ht
                                     omega
          have hplt := TextR.pad_lt bs hbits
          have hpl : (TextR.pad bs).length = N := by rw [hpad, List.length_append, List.length_replicate, ← HN.out]
          rw [← hpad] at hxs
          subst hxs
          have hcell : ∀ (j : Nat) (h : j < (TextR.pad bs).length), ∃ ad, A3 = some ad ∧ wr.cell? (ad.add j) = some (.int .i64 ((TextR.pad bs)[j] : Int)) := by
            intro j h
            obtain ⟨ad, e, _, hc⟩ := hV.at_ (k := j) (by rw [cellsOf_length]; exact h)
            exact ⟨ad, e, by rw [hc]; simp [cellsOf]⟩
          have HCe := Lib.hid hcell
          have HPl := Lib.hid hpl
          have HPt := Lib.hid hplt
          generalize TextR.pad bs = pb at *
          clear hpad hsnoc hbits hrow hV hcell hpl hplt HX HN HL HG H6 hp hlt6 hbl hLb
          go_wp2
          go_loop [7, 8] (fun s i => ∃ m : Nat, 6 * m ≤ N ∧ i = .int .i64 ((6 * m : Nat) : Int) ∧ s = .string ⟨(TextR.grp (pb.take (6 * m))).toArray⟩) (fun _ i => N - (intOf i).toNat)
          case atStart => exact ⟨0, by omega, rfl, rfl⟩
          case round =>
            obtain ⟨m, hm, rfl, rfl⟩ := hrel
            by_cases hlt : 6 * m < N
            · generalize hq : 6 * m = q at *
              have hq6 : q + 6 ≤ N := by omega
              obtain ⟨ad, rfl, _⟩ := HCe.out q (by rw [HPl.out]; omega)
              have HQ := Lib.hid hq; clear hq
              have hlt2 : ∀ j, j < 6 → ∃ y : Nat, y < 2 ∧ wr.cell? (ad.add (q + j)) = some (.int .i64 (y : Int)) ∧ (pb.drop q).take (j + 1) = (pb.drop q).take j ++ [y] := by
                intro j hj
                obtain ⟨ad', e, hc⟩ := HCe.out (q + j) (by rw [HPl.out]; omega)
                cases e
                refine ⟨pb[q + j]'(by rw [HPl.out]; omega), HPt.out _ (List.getElem_mem _), hc, ?_⟩
                rw [List.take_succ_eq_append_getElem (show j < (pb.drop q).length from by rw [List.length_drop, HPl.out]; omega), List.getElem_drop]
              have hval : ∀ j, j ≤ 6 → TextR.val ((pb.drop q).take j) < 64 := by
                intro j hj
                have h := TextR.val_lt ((pb.drop q).take j) (fun n hn => HPt.out n (List.mem_of_mem_drop (List.mem_of_mem_take hn)))
                have h2 : ((pb.drop q).take j).length ≤ 6 := by rw [List.length_take]; omega
                exact Nat.lt_of_lt_of_le h (Nat.pow_le_pow_right (by decide) h2)
              have HLt := Lib.hid hlt2
              have HV := Lib.hid hval
              have HGN := Lib.hid (TextR.grp_next pb m (by rw [HQ.out, HPl.out]; omega))
              rw [HQ.out] at HGN
              clear hlt2 hval
              have hpre : (TextR.grp (pb.take q)).length ≤ pb.length := by have := grp_length (pb.take q); rw [List.length_take] at this; omega
              rw [HPl.out] at hpre
              have HPre := Lib.hid (Nat.le_trans hpre hNb)
              clear hpre
              generalize TextR.grp (pb.take q) = pre at *
              go_wp2
              go_loop [9, 51] (fun n j => ∃ k : Nat, k ≤ 6 ∧ j = .int .i64 (k : Int) ∧ n = .int .i64 (TextR.val ((pb.drop q).take k) : Int)) (fun _ j => 6 - (intOf j).toNat)
              case atStart => exact ⟨0, by omega, rfl, rfl⟩
              case round =>
                obtain ⟨k, hk, rfl, rfl⟩ := hrel
                by_cases hlt6 : k < 6
                · obtain ⟨y, hy, hcy, hty⟩ := HLt.out k hlt6
                  have hv := HV.out k hk
                  have hvs := TextR.val_snoc ((pb.drop q).take k) y
                  rw [← hty] at hvs
                  have HVS := Lib.hid hvs
                  clear hvs hty
                  generalize TextR.val ((pb.drop q).take k) = V at *
                  rw [← add_add] at hcy
                  go_wp2
                  go_round
                  case rel => exact ⟨k + 1, by omega, by go_num, by rw [HVS.out]; go_num⟩
                  case measure => simp [intOf]; omega
                · obtain rfl : k = 6 := by omega
                  have hv := HV.out 6 (Nat.le_refl 6)
                  generalize TextR.val ((pb.drop q).take 6) = V at *
                  have HF := Lib.hid (found V hv)
                  have hpl : pre.length ≤ 4398046511104 := by
                    have := HPre.out
                    omega
                  go_wp2
                  go_loop [7, 60] (fun s j => ∃ k : Nat, k ≤ 128 ∧ j = .int .i64 (k : Int) ∧ s = .string ⟨(pre ++ seen V k).toArray⟩) (fun _ j => 128 - (intOf j).toNat)
                  case atStart => exact ⟨0, by omega, rfl, by rw [seen_zero]; simp⟩
                  case round =>
                    obtain ⟨k, hk, rfl, rfl⟩ := hrel
                    by_cases hlt7 : k < 128
                    · have hadd := HF.out k hlt7
                      by_cases hn : TextN.num (UInt8.ofNat k) = some V
                      · have HS := Lib.hid (hadd.1 hn); clear hadd
                        have hcall := letter_nat_some k V (by omega) hn wr
                        obtain ⟨E, hE, hcat⟩ := add_enc pre k hpl hlt7 wr
                        rw [HS.out.1, List.append_nil]
                        have HC := Lib.hid hcall; clear hcall hn
                        have q0 : (0 : Int) ≤ (k : Int) := by omega
                        have q1 : (k : Int) < 128 := by omega
                        go_wp2_with fail
                        refine HC.out.mono ?_
                        rintro e w' ⟨rfl, rfl⟩
                        go_wp2
                        go_round
                        case rel => exact ⟨k + 1, by omega, by go_num, by rw [HS.out.2]⟩
                        case measure => simp [intOf]; omega
                      · have HS := Lib.hid (hadd.2 hn); clear hadd
                        cases hu : TextN.num (UInt8.ofNat k) with
                        | none =>
                          have HC := Lib.hid (letter_nat_none k (by omega) hu wr)
                          have ht : ((-1 : Int) == (V : Int)) = false := beq_eq_false_iff_ne.2 (by omega)
                          clear hn hu
                          go_wp2_with fail
                          refine HC.out.mono ?_
                          rintro e w' ⟨rfl, rfl⟩
                          go_wp2
                          go_round
                          case rel => exact ⟨k + 1, by omega, by go_num, by rw [HS.out]⟩
                          case measure => simp [intOf]; omega
                        | some u =>
                          have HC := Lib.hid (letter_nat_some k u (by omega) hu wr)
                          have ht : ((u : Int) == (V : Int)) = false := beq_eq_false_iff_ne.2 (by intro h; exact hn (by rw [hu, show u = V from by omega]))
                          clear hn hu
                          go_wp2_with fail
                          refine HC.out.mono ?_
                          rintro e w' ⟨rfl, rfl⟩
                          go_wp2
                          go_round
                          case rel => exact ⟨k + 1, by omega, by go_num, by rw [HS.out]⟩
                          case measure => simp [intOf]; omega
                    · obtain rfl : k = 128 := by omega
                      rw [seen_all V hv]
                      go_wp2
                      go_round
                      case rel => exact ⟨m + 1, by have := HQ.out; omega, by have := HQ.out; go_num, by rw [show 6 * (m + 1) = q + 6 from by have := HQ.out; omega, HGN.out]⟩
                      case measure => simp [intOf]; omega
            · obtain hq : 6 * m = N := by omega
              go_wp2
              go_ret
              refine ⟨?_, hb⟩
              rw [show pb.take N = pb from List.take_of_length_le (by rw [HPl.out]; omega), hG.out]
              rfl
end Go.Proofs.Ytnbchnaehmbfcaa.RefCodeW
