/-
  The walk of ticketwardkeep.VintRow: it returns true and writes nothing that was there. Conditions: the table of math/bits, the form's own reach.
-/
import Derived.Test.YtgmkbmfeaneaoaaDoorVintAlive
import Derived.Test.YtgmkbmfeaneaoaaDoorVintO
import Derived.Test.YtgmkbmfeaneaoaaDoorIntsW
namespace Go.Proofs.YtgmkbmfeaneaoaaDoor.VintRowL
open Go.RowKit BytesW IntsW VintM VintLongW VintTakeW VintPutW VintAliveW

theorem encs_take (l : List Int) (k : Nat) (h : k < l.length) : encs (l.take (k + 1)) = encs (l.take k) ++ enc l[k].toNat (lng l[k].toNat) := by
  rw [List.take_succ_eq_append_getElem h, encs_append, encs_cons, encs_nil, List.append_nil]
theorem encs_drop (l : List Int) (k : Nat) (h : k < l.length) : encs (l.drop k) = enc l[k].toNat (lng l[k].toNat) ++ encs (l.drop (k + 1)) := by
  rw [List.drop_eq_getElem_cons h, encs_cons]

set_option maxHeartbeats 4000000 in
set_option maxRecDepth 100000 in
theorem walk (a : Option Addr) (l : List Int) (c : Nat) (w : World) (hA : Is w w.heap.size a l) (_ : l.length ≤ c) (hl : l.length * 8 ≤ 140737488351232) (hT : Tab w) :
    Calls Tryd.prog 7 #[.slice a l.length c] w fun e w' => e = .returned (.bool true) ∧ Below w.heap.size w w' := by
  have HA := Lib.hid (alive_any w hT)
  have HT := Lib.hid hT
  clear hT
  go_enter Tryd.func7, Tryd.ntmps7
  go_wp2_with fail
  refine HA.out.mono ?_
  clear HA
  rintro e w1 ⟨rfl, b1⟩
  go_wp2
  go_loopw [3, 17] (fun v i wr => ∃ k, k ≤ l.length ∧ i = .int .i64 (k : Int) ∧ (∀ j (h : j < l.length), j < k → okN l[j] = true) ∧ Row w.heap.size wr v (encs (l.take k)) ∧ Below w.heap.size w wr) (fun _ i _ => l.length - (intOf i).toNat)
  case atStart => exact ⟨0, Nat.zero_le _, rfl, fun j h hj => by omega, Row.nil _ _, b1⟩
  case round =>
    clear b1
    obtain ⟨k, hk, rfl, hok, hrow, hb⟩ := hrel
    have HOK := Lib.hid hok
    clear hok
    by_cases hlt : k < l.length
    · obtain ⟨ad, rfl, hadb, hcell⟩ := (hA.below hb).at_ hlt
      have HE := Lib.hid (encs_take l k hlt)
      have hel := encs_len (l.take k)
      rw [List.length_take, Nat.min_eq_left hk] at hel
      have hx : l[k] = l[k] := rfl
      obtain ⟨x, hxe⟩ : ∃ x, l[k] = x := ⟨_, rfl⟩
      rw [hxe] at hcell HE
      have HX := Lib.hid hxe
      clear hxe hx
      have hp := put_any x wr (HT.out.below hb)
      unfold ByPost at hp
      generalize encs (l.take k) = acc at *
      rcases put_cases x with ⟨e, hn⟩ | ⟨m, rfl, hm, e⟩
      · rw [e] at hp
        have hp' := Lib.hid hp
        have h' := okN_no hn
        clear hn e hp hrow
        have ht13 : (x < 0 ∧ decide (x < 0) = true) ∨ (decide (x < 0) = false ∧ decide (4611686018427387904 ≤ x) = true) := by
          rcases h' with h | h
          · exact .inl ⟨h, decide_eq_true h⟩
          · exact .inr ⟨decide_eq_false (by omega), decide_eq_true h⟩
        clear h'
        go_wp2_with fail
        refine hp'.out.mono ?_
        clear hp'
        rintro e w2 ⟨v2, rfl, r2, b2⟩
        have b' := hb.trans (b2.mono hb.size)
        clear hb b2 r2
        rcases ht13 with ⟨t0, t1⟩ | ⟨t0, t1⟩
        all_goals
          go_wp2
          go_ret
          exact ⟨rfl, b'⟩
      · rw [e] at hp
        have hp' := Lib.hid hp
        have hml := enc_length (n := m) (lng_isK m)
        have hm8 := isK_pos (lng_isK m)
        rw [Int.toNat_natCast] at HE
        rw [← hml] at hm8
        have HOM := Lib.hid (okN_of hm)
        clear e hp hm hml
        generalize enc m (lng m) = E at *
        go_wp2_with fail
        refine hp'.out.mono ?_
        clear hp'
        rintro e w2 ⟨v2, rfl, r2, b2⟩
        have b' := hb.trans (b2.mono hb.size)
        have hrow' := hrow.below b2
        obtain ⟨A2, c2, rfl, s2, _⟩ := r2.form2
        have hlen : acc.length + E.length ≤ 140737488355328 := by omega
        have hsz := b'.size
        have S2 := Lib.hid s2
        clear hrow r2 s2 hb b2
        go_wp2_with (at_builtin; go_must (refine appN rfl (.tmp 34) (.tmp 35) rfl w.heap.size _ _ acc rfl hrow' A2 E c2 rfl S2.out hlen hsz ?_))
        intro v3 w3 hr3 hb3
        go_wp2
        go_roundw
        case rel =>
          refine ⟨k + 1, by omega, by go_num, fun j h hj => ?_, by rw [HE.out]; exact hr3, b'.trans hb3⟩
          by_cases hjk : j < k
          · exact HOK.out j h hjk
          · obtain rfl : j = k := by omega
            rw [HX.out]
            exact HOM.out
        case measure => simp [intOf]; omega
    · obtain rfl : k = l.length := by omega
      rw [List.take_length] at hrow
      obtain ⟨A, c1, rfl, s1, hc1⟩ := hrow.form2
      have hA' := hA.below hb
      have hE0 : encs l = encs (l.drop 0) := by simp
      have HE0 := Lib.hid hE0
      have hbd := encs_len l
      clear hrow hE0 hA
      generalize hEl : encs l = E at *
      have HEl := Lib.hid hEl
      clear hEl
      go_wp2
      go_loop [3, 40] (fun v i => ∃ (k : Nat) (A : Option Addr) (c : Nat) (F : List UInt8), k ≤ l.length ∧ i = .int .i64 (k : Int) ∧ v = .slice A F.length c ∧ F.length ≤ c ∧ F = encs (l.drop k) ∧ Bs wr wr.heap.size A F ∧ F.length ≤ E.length) (fun _ i => l.length - (intOf i).toNat)
      case atStart => exact ⟨0, A, c1, E, Nat.zero_le _, rfl, rfl, hc1, HE0.out, s1, Nat.le_refl _⟩
      case round =>
        clear s1 hc1
        obtain ⟨k, A, c1, F, hk, rfl, rfl, hc1, hF, s1, hFE⟩ := hrel
        by_cases hlt : k < l.length
        · obtain ⟨ad, rfl, hadb, hcell⟩ := hA'.at_ hlt
          obtain ⟨m, hm, hm2⟩ := okN_yes (HOK.out k hlt hlt)
          have hd := encs_drop l k hlt
          rw [hm, Int.toNat_natCast, ← hF] at hd
          rw [hm] at hcell
          have hst := strict_any F A c1 _ wr s1 hc1
          unfold ThPost at hst
          rw [hd, strict_put hm2, ← hd] at hst
          have HST := Lib.hid hst
          have hK := isK_pos (lng_isK m)
          have hlF : F.length = lng m + (encs (l.drop (k + 1))).length := by rw [hd, List.length_append, enc_length (lng_isK m)]
          have hdr : F.drop (lng m) = encs (l.drop (k + 1)) := by rw [hd]; exact List.drop_left' (enc_length (lng_isK m))
          obtain ⟨A', hA2⟩ : ∃ A', (if c1 = lng m then A else A.map (·.add (lng m))) = A' := ⟨_, rfl⟩
          have hcut := s1.cut (lng m) c1 hc1
          rw [hA2, hdr] at hcut
          have HC := Lib.hid hcut
          have HLF := Lib.hid hlF
          clear hm hm2 hd hF hst hcut hdr hlF s1 hA'
          generalize lng m = K at *
          generalize hG : encs (l.drop (k + 1)) = G at *
          have HG := Lib.hid hG
          clear hG
          have g1 : K ≤ F.length := by have := HLF.out; omega
          have g2 : F.length - K = G.length := by have := HLF.out; omega
          have g3 : K ≤ c1 := by omega
          have t1 : decide ((K : Int) < 1) = false := decide_eq_false (by omega)
          have t2 : decide (F.length < K) = false := decide_eq_false (by omega)
          go_wp2_with fail
          refine HST.out.mono ?_
          clear HST
          rintro e w' ⟨rfl, rfl⟩
          go_wp2
          go_round
          case rel => exact ⟨k + 1, A', c1 - K, G, by omega, by go_num, by first | rfl | rw [g2], by omega, HG.out.symm, HC.out, by omega⟩
          case measure => simp [intOf]; omega
        · obtain rfl : k = l.length := by omega
          rw [List.drop_length, encs_nil] at hF
          subst hF
          go_wp2
          go_ret
          exact ⟨rfl, hb⟩
end Go.Proofs.YtgmkbmfeaneaoaaDoor.VintRowL
