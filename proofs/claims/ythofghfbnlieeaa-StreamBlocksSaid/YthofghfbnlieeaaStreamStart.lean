/-
  stream.start: what it hands back. Conditions: in the statement.
-/
import Derived.Test.YthofghfbnlieeaaStreamRead
namespace Go.Proofs.Ythofghfbnlieeaa.StreamStartW
open Go.RowKit BytesW CellsW WordsW ArrW ArrG HashM HashTurnW StreamM StreamStepW StreamPutW StreamWW StreamRoundsW StreamReadW

theorem sigma_words : lwords sigma = [1634760805, 857760878, 2036477234, 1797285236] := by decide +kernel

/-- The words as they are laid, one part behind the other. -/
def st0 : List Nat := [1634760805, 857760878, 2036477234, 1797285236, 0, 0, 0, 0, 0, 0, 0, 0, 0, 0, 0, 0]
def st1 (key : List UInt8) : List Nat := st0.take 4 ++ lwords key ++ st0.drop 12
theorem st1_len (key : List UInt8) (h : key.length = 32) : (st1 key).length = 16 := by unfold st1; rw [List.length_append, List.length_append, lwords_len, h]; rfl
theorem st1_eq (key : List UInt8) : st1 key = lwords sigma ++ lwords key ++ [0, 0, 0, 0] := by rw [sigma_words]; rfl
def st2 (key : List UInt8) (n : Int) : List Nat := (st1 key).set 12 (n % 4294967296).toNat
theorem st2_len (key : List UInt8) (n : Int) (h : key.length = 32) : (st2 key n).length = 16 := by unfold st2; rw [List.length_set, st1_len key h]
theorem st2_eq (key : List UInt8) (n : Int) (h : key.length = 32) : st2 key n = lwords sigma ++ lwords key ++ [(n % 4294967296).toNat] ++ [0, 0, 0] := by
  have hl : (lwords sigma ++ lwords key).length = 12 := by rw [List.length_append, lwords_len, lwords_len, h]; rfl
  unfold st2
  rw [st1_eq, List.set_append, if_neg (by omega), hl]
  simp
theorem st3_eq (key nonce : List UInt8) (n : Int) (h : key.length = 32) : (st2 key n).take 13 ++ lwords nonce ++ (st2 key n).drop (13 + 3) = StreamM.start key nonce n := by
  have hl : (lwords sigma ++ lwords key ++ [(n % 4294967296).toNat]).length = 13 := by rw [List.length_append, List.length_append, lwords_len, lwords_len, h]; rfl
  have h16 := st2_len key n h
  rw [List.drop_of_length_le (show (st2 key n).length ≤ 13 + 3 by omega), List.append_nil, st2_eq key n h, List.take_append_of_le_length (by omega), List.take_of_length_le (by omega)]
  rfl

set_option maxHeartbeats 8000000 in
set_option maxRecDepth 100000 in
theorem start_any (A : Option Addr) (key : List UInt8) (c : Nat) (A' : Option Addr) (nonce : List UInt8) (c' : Nat) (n : Int) (w : World) (hA : Bs w w.heap.size A key) (hk : key.length = 32) (hB : Bs w w.heap.size A' nonce) (hn : nonce.length = 12) :
    Calls Try.prog 17 #[.slice A key.length c, .slice A' nonce.length c', .int .i64 n] w fun e w' => e = .returned (.agg (wc (StreamM.start key nonce n)).toArray) ∧ Below w.heap.size w w' := by
  have HA := Lib.hid hA
  have HB := Lib.hid hB
  have HK := Lib.hid hk
  have HN := Lib.hid hn
  clear hA hB hk hn
  go_enter Try.func17, Try.ntmps17
  go_upto_region 1 with (fail)
  generalize hW : World.alloc _ _ = W
  obtain ⟨H0, hbw, hsz⟩ := start1 hW
  clear hW
  have a0 : Arr W w.heap.size 41 (wc (List.replicate 16 0)) := H0
  have A0 := Lib.hid a0
  have HBW := Lib.hid hbw
  have HSZ := Lib.hid hsz
  clear a0 H0 hbw hsz
  obtain ⟨g, hg⟩ : ∃ g, w.heap.size = g := ⟨_, rfl⟩
  have HBw : Hid (Below g w W) := Lib.hid (by rw [← hg]; exact HBW.out)
  rw [hg] at A0 HSZ HA HB
  have HG := Lib.hid hg
  simp only [hg]
  clear hg HBW
  have N0 := Lib.hid (show (wc st0).length = 16 by rfl)
  go_upto_region 2 with (refine Arr.storeL (Arr.new W _ _) rfl 41 (.tmp 7) (.tmp 8) rfl rfl (wc st0) rfl words_size (by rfl) N0.out (wc_one _) ?_)
  generalize hw2 : World.setRow _ _ _ = w2
  obtain ⟨a2, b2, z2⟩ := filled hw2
  rw [HSZ.out] at a2 b2 z2 ⊢
  have A1 := Lib.hid a2
  have A02 := Lib.hid (A0.out.below b2 (Nat.lt_succ_self g))
  have HB2 := Lib.hid (HBw.out.trans (b2.mono (Nat.le_succ g)))
  have HZ2 := Lib.hid z2
  clear a2 b2 z2 hw2 A0 HBw
  have hr := read_any (g + 1) 4 8 12 ⟨g + 1, 4, none⟩ (fun k => by unfold Addr.add; split <;> simp_all) 41 st0 A key c w2 A1.out (by decide) (by decide) (by decide) (by rw [HK.out]) ((HA.out.below HB2.out).more (by have := HZ2.out; omega)) (fun h0 a e => by
    obtain ⟨a', e', hlt, _⟩ := HA.out h0
    rw [e] at e'
    cases e'
    omega)
  have HR := Lib.hid hr
  clear hr
  go_wp2_with fail
  refine HR.out.mono ?_
  clear HR
  rintro e w3 ⟨rfl, a3, g3⟩
  have A3 := Lib.hid (show Arr w3 (g + 1) 41 (wc (st1 key)) from a3)
  have A03 := Lib.hid (arr_grown A02.out g3 (by omega))
  have HB3 := Lib.hid (HB2.out.trans (grownBelow g3 (Nat.le_succ g) (by have := HZ2.out; omega)))
  have HZ3 := Lib.hid (show g + 2 ≤ w3.heap.size by have := HZ2.out; have := g3.size; omega)
  clear a3 g3 A1 A02 HB2
  obtain ⟨N, hN⟩ : ∃ N, (n % 4294967296).toNat = N := ⟨_, rfl⟩
  have eN : IntKind.u32.wrap n = (N : Int) := by rw [IntKind.wrap_u32, ← hN]; omega
  have co := A3.out.cell 12
  rw [wc_getD _ _ (by rw [st1_len key HK.out]; decide)] at co
  have fo := A3.out.frozen 12
  have a4 := A3.out.set 12 (.int .u32 (N : Int))
  have hs2 : (st1 key).set 12 N = st2 key n := by rw [← hN]; rfl
  rw [wc_set, hs2] at a4
  have A4 := Lib.hid a4
  have G4 := Lib.hid (grownSet w3 (g + 1) 12 (.int .u32 (N : Int)))
  generalize (st1 key).getD 12 0 = old at co
  clear a4 hs2 hN
  go_upto_region 4 with (fail)
  obtain ⟨w4, hw4⟩ : ∃ x, w3.setCell ⟨g + 1, 12, none⟩ (.int .u32 (N : Int)) = x := ⟨_, rfl⟩
  rw [hw4] at A4 G4 ⊢
  have A04 := Lib.hid (arr_grown A03.out G4.out (by omega))
  have HB4 := Lib.hid (HB3.out.trans (grownBelow G4.out (Nat.le_succ g) (by have := HZ3.out; omega)))
  have HZ4 := Lib.hid (show g + 2 ≤ w4.heap.size by have := HZ3.out; have := G4.out.size; omega)
  clear co fo eN hw4 A03 HB3 A3 G4
  have hr := read_any (g + 1) 13 3 3 ⟨g + 1, 13, none⟩ (fun k => by unfold Addr.add; split <;> simp_all) 41 (st2 key n) A' nonce c' w4 A4.out (by rw [st2_len key n HK.out]; decide) (by rw [st2_len key n HK.out]; decide) (fun k hk => by
      have hl : (lwords sigma ++ lwords key ++ [(n % 4294967296).toNat]).length = 13 := by rw [List.length_append, List.length_append, lwords_len, lwords_len, HK.out]; rfl
      rw [st2_eq key n HK.out, List.getD_eq_getElem?_getD, List.getElem?_append_right (by omega), hl, Nat.add_sub_cancel_left]
      match k, hk with
      | 0, _ => rfl
      | 1, _ => rfl
      | 2, _ => rfl) (by rw [HN.out]) ((HB.out.below HB4.out).more (by have := HZ4.out; omega)) (fun h0 a e => by
    obtain ⟨a', e', hlt, _⟩ := HB.out h0
    rw [e] at e'
    cases e'
    omega)
  rw [st3_eq key nonce n HK.out] at hr
  have HR := Lib.hid hr
  clear hr
  go_wp2_with fail
  refine HR.out.mono ?_
  clear HR
  rintro e w5 ⟨rfl, a5, g5⟩
  obtain ⟨Z, hZ⟩ : ∃ Z, StreamM.start key nonce n = Z := ⟨_, rfl⟩
  have N1 := Lib.hid (show (wc Z).length = 16 by rw [wc_length, ← hZ]; exact start_len key nonce n HK.out HN.out)
  rw [hZ] at a5
  have HZ := Lib.hid hZ
  have A5 := Lib.hid a5
  have A05 := Lib.hid (arr_grown A04.out g5 (by omega))
  have HB5 := Lib.hid (HB4.out.trans (grownBelow g5 (Nat.le_succ g) (by have := HZ4.out; omega)))
  have AF := Lib.hid (A05.out.row (wc Z))
  have HBF := Lib.hid (below_row HB5.out (Nat.le_refl g) (wc Z).toArray)
  clear a5 g5 hZ
  go_wp2_with (first | (refine Arr.loadL A5.out rfl 41 (.tmp 7) rfl rfl words_u rfl words_size N1.out ?_) | (refine Arr.storeL A05.out rfl 41 (.tmp 6) (.tmp 18) rfl rfl (wc Z) rfl words_size (by rfl) N1.out (wc_one _) ?_))
  refine bodyPost_ret (v := .agg (wc Z).toArray) (by exact AF.out.ret rfl _ rfl words_u rfl words_size N1.out) rfl ⟨by rw [HZ.out], by rw [HG.out]; exact HBF.out⟩
end Go.Proofs.Ythofghfbnlieeaa.StreamStartW
