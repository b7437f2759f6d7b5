/-
  stream.Block, stream.Mix and the small functions that they call: what they hand back. Conditions: in each statement.
-/
import Derived.Test.YtohpgfefdlccmaaKh
import Derived.Test.YtohpgfefdlccmaaKg
import Derived.Test.YtohpgfefdlccmaaStreamMix
namespace Go.Proofs.Ytohpgfefdlccmaa.StreamSumW
open Go.RowKit BytesW CellsW WordsW ArrW ArrG HashM HashTurnW StreamM StreamStepW StreamWW StreamRoundsW StreamProduceW StreamStartW StreamMixW

theorem arr_row {w : World} {g B : Nat} {t : TypeId} {D : List UInt8} (h : Arr w g t (Lib.byteCells D)) (hB : g < B) : Bs w B (some ⟨g, 0, none⟩) D := by
  intro _
  refine ⟨_, rfl, hB, fun k hk => ?_⟩
  have e : (⟨g, 0, none⟩ : Addr).add k = ⟨g, k, none⟩ := by unfold Addr.add; split <;> simp_all
  rw [e, h.cell]
  simp [Lib.byteCells, List.getElem?_eq_getElem hk]

/-- What both functions hand back: a row and an error's number. -/
def Post (r : List UInt8 × Int) (w : World) (e : Ending) (w' : World) : Prop :=
  ∃ A d, e = .returned (.tuple #[.slice A r.1.length d, .int .i64 r.2]) ∧ r.1.length ≤ d ∧ Bs w' w'.heap.size A r.1 ∧ Below w.heap.size w w'

set_option maxHeartbeats 1000000 in
theorem formed_any (A : Option Addr) (l : List UInt8) (c : Nat) (A' : Option Addr) (l' : List UInt8) (c' : Nat) (w : World) :
    Calls Try.prog 23 #[.slice A l.length c, .slice A' l'.length c'] w fun e w' => e = .returned (.bool (decide (l.length = 32 ∧ l'.length = 12))) ∧ w = w' := by
  by_cases h1 : l.length = 32
  · have t1 : ((l.length : Int) == 32) = true := by rw [beq_iff_eq]; omega
    by_cases h2 : l'.length = 12
    · have t2 : ((l'.length : Int) == 12) = true := by rw [beq_iff_eq]; omega
      rw [decide_eq_true (show l.length = 32 ∧ l'.length = 12 from ⟨h1, h2⟩)]
      clear h1 h2
      go_enter Try.func23, Try.ntmps23
      go_wp2
      go_ret
      exact ⟨rfl, rfl⟩
    · have t2 : ((l'.length : Int) == 12) = false := by rw [beq_eq_false_iff_ne]; omega
      rw [decide_eq_false (show ¬ (l.length = 32 ∧ l'.length = 12) from fun h => h2 h.2)]
      clear h1 h2
      go_enter Try.func23, Try.ntmps23
      go_wp2
      go_ret
      exact ⟨rfl, rfl⟩
  · have t1 : ((l.length : Int) == 32) = false := by rw [beq_eq_false_iff_ne]; omega
    rw [decide_eq_false (show ¬ (l.length = 32 ∧ l'.length = 12) from fun h => h1 h.1)]
    clear h1
    go_enter Try.func23, Try.ntmps23
    go_wp2
    go_ret
    exact ⟨rfl, rfl⟩

set_option maxHeartbeats 1000000 in
theorem counted_any (n : Int) (w : World) :
    Calls Try.prog 24 #[.int .i64 n] w fun e w' => e = .returned (.bool (decide (0 ≤ n ∧ n < 4294967296))) ∧ w = w' := by
  by_cases h1 : 0 ≤ n
  · have t1 : decide (0 ≤ n) = true := decide_eq_true h1
    by_cases h2 : n ≤ 4294967295
    · have t2 : decide (n ≤ 4294967295) = true := decide_eq_true h2
      rw [decide_eq_true (show 0 ≤ n ∧ n < 4294967296 by omega)]
      clear h1 h2
      go_enter Try.func24, Try.ntmps24
      go_wp2
      go_ret
      exact ⟨rfl, rfl⟩
    · have t2 : decide (n ≤ 4294967295) = false := decide_eq_false h2
      rw [decide_eq_false (show ¬ (0 ≤ n ∧ n < 4294967296) by omega)]
      clear h1 h2
      go_enter Try.func24, Try.ntmps24
      go_wp2
      go_ret
      exact ⟨rfl, rfl⟩
  · have t1 : decide (0 ≤ n) = false := decide_eq_false h1
    rw [decide_eq_false (show ¬ (0 ≤ n ∧ n < 4294967296) by omega)]
    clear h1
    go_enter Try.func24, Try.ntmps24
    go_wp2
    go_ret
    exact ⟨rfl, rfl⟩

set_option maxHeartbeats 1000000 in
theorem enough_any (n : Int) (l : Nat) (hn0 : 0 ≤ n) (hn : n < 4294967296) (hl : l ≤ 16384) (w : World) :
    Calls Try.prog 25 #[.int .i64 n, .int .i64 (l : Int)] w fun e w' => e = .returned (.bool (decide ((l : Int) ≤ 64 * (4294967296 - n)))) ∧ w = w' := by
  obtain ⟨m, hm⟩ : ∃ m, l + 63 = m := ⟨_, rfl⟩
  obtain ⟨q, hq⟩ : ∃ q, m / 64 = q := ⟨_, rfl⟩
  obtain ⟨r, hr⟩ : ∃ r : Int, 4294967296 - n = r := ⟨_, rfl⟩
  have e1 : IntKind.i64.wrap ((l : Int) + 64) = ((m + 1 : Nat) : Int) := by rw [IntWalk.i64_in _ (by omega)]; omega
  have e2 : IntKind.i64.wrap (((m + 1 : Nat) : Int) - 1) = (m : Int) := by rw [IntWalk.i64_in _ (by omega)]; omega
  have d1 : (m : Int).tdiv 64 = (q : Int) := by rw [Int.tdiv_eq_ediv_of_nonneg (by omega)]; omega
  have d2 : (m : Int) / 64 = (q : Int) := by omega
  have wq : IntKind.i64.wrap (q : Int) = (q : Int) := IntWalk.i64_in _ (by omega)
  obtain ⟨r1, hr1⟩ : ∃ r1 : Int, 4294967295 - n = r1 := ⟨_, rfl⟩
  have e3 : IntKind.i64.wrap (4294967295 - n) = r1 := by rw [IntWalk.i64_in _ (by omega)]; omega
  have e4 : IntKind.i64.wrap (r1 + 1) = r := by rw [IntWalk.i64_in _ (by omega)]; omega
  have e5 : decide ((l : Int) ≤ 64 * r) = decide ((q : Int) ≤ r) := by
    by_cases h : (q : Int) ≤ r
    · rw [decide_eq_true h, decide_eq_true (by omega)]
    · rw [decide_eq_false h, decide_eq_false (by omega)]
  rw [hr, e5]
  obtain ⟨m1, hm1⟩ : ∃ m1, m + 1 = m1 := ⟨_, rfl⟩
  rw [hm1] at e1 e2
  obtain ⟨t, ht⟩ : ∃ t, decide ((q : Int) ≤ r) = t := ⟨_, rfl⟩
  rw [ht]
  clear hm hq hr hr1 hm1 e5 hn0 hn hl
  go_enter Try.func25, Try.ntmps25
  go_wp2
  go_ret
  exact ⟨rfl, rfl⟩

set_option maxHeartbeats 8000000 in
set_option maxRecDepth 100000 in
theorem sblock_any (A : Option Addr) (key : List UInt8) (c : Nat) (A' : Option Addr) (nonce : List UInt8) (c' : Nat) (n : Int) (w : World) (hA : Bs w w.heap.size A key) (_hc : key.length ≤ c) (hB : Bs w w.heap.size A' nonce) (_hd : nonce.length ≤ c') (_hk : key.length ≤ 140737488351232) (_hn : nonce.length ≤ 140737488351232) (_hn1 : -9223372036854775808 ≤ n) (_hn2 : n < 9223372036854775808) :
    Calls Try.prog 22 #[.slice A key.length c, .slice A' nonce.length c', .int .i64 n] w fun e w' => Post (blockM key nonce n) w e w' := by
  have HA := Lib.hid hA
  have HB := Lib.hid hB
  have HF := Lib.hid (formed_any A key c A' nonce c' w)
  have HC := Lib.hid (counted_any n w)
  obtain ⟨r, hr⟩ : ∃ r, blockM key nonce n = r := ⟨_, rfl⟩
  rw [hr]
  have HR := Lib.hid hr
  clear hA hB hr
  go_enter Try.func22, Try.ntmps22
  go_wp2_with fail
  refine HF.out.mono ?_
  clear HF
  rintro e w1 ⟨rfl, rfl⟩
  by_cases h1 : key.length = 32 ∧ nonce.length = 12
  · rw [decide_eq_true h1]
    have HK := Lib.hid h1.1
    have HN := Lib.hid h1.2
    clear h1
    go_wp2_with fail
    refine HC.out.mono ?_
    clear HC
    rintro e w1 ⟨rfl, rfl⟩
    by_cases h2 : 0 ≤ n ∧ n < 4294967296
    · rw [decide_eq_true h2]
      have hr := HR.out
      unfold blockM at hr
      rw [if_neg (by rw [HK.out, HN.out]; decide), if_neg (by omega)] at hr
      have HR2 := Lib.hid hr
      have HS := Lib.hid (start_any A key c A' nonce c' n w HA.out HK.out HB.out HN.out)
      have HSl := Lib.hid (start_len key nonce n HK.out HN.out)
      have HSo := Lib.hid (start_ok key nonce n)
      have HBl := Lib.hid (show block key nonce n = (List.range 64).map (byteAt (StreamM.rounds (StreamM.start key nonce n) 20) (StreamM.start key nonce n)) from rfl)
      clear h2 hr HR
      go_wp2_with fail
      refine HS.out.mono ?_
      clear HS
      rintro e w2 ⟨rfl, b2⟩
      obtain ⟨S, hS⟩ : ∃ S, StreamM.start key nonce n = S := ⟨_, rfl⟩
      rw [hS] at HSl HSo HBl ⊢
      have HP := Lib.hid (produce_any S w2 HSl.out HSo.out)
      rw [← HBl.out] at HP
      have HB2 := Lib.hid b2
      clear hS b2
      go_wp2_with fail
      refine HP.out.mono ?_
      clear HP
      rintro e w3 ⟨rfl, b3⟩
      have HB3 := Lib.hid (HB2.out.trans (b3.mono HB2.out.size))
      obtain ⟨Bk, hBk⟩ : ∃ Bk, block key nonce n = Bk := ⟨_, rfl⟩
      have HBk := Lib.hid (show Bk.length = 64 by rw [← hBk]; exact block_len _ _ _)
      have NB := Lib.hid (show (Lib.byteCells Bk).length = 64 by rw [Lib.byteCells_length]; exact HBk.out)
      rw [hBk] at HR2 ⊢
      clear hBk b3
      go_wp2_with (refine Arr.storeL (Arr.new w3 _ _) rfl 52 (.tmp 8) (.tmp 20) rfl rfl (Lib.byteCells Bk) rfl a64_size (by rfl) NB.out (bytes_one _) ?_)
      generalize hw4 : World.setRow _ _ _ = w4
      obtain ⟨a4, b4, z4⟩ := filled hw4
      have A4 := Lib.hid a4
      have HB4 := Lib.hid (HB3.out.trans (b4.mono HB3.out.size))
      have HZ := Lib.hid z4
      clear a4 b4 z4 hw4
      go_wp2
      go_ret2
      have hr := HR2.out
      subst hr
      exact ⟨some ⟨w3.heap.size, 0, none⟩, 64, by simp only [HBk.out]; rfl, by simp only [HBk.out]; exact Nat.le_refl _, arr_row A4.out A4.out.lt, HB4.out⟩
    · rw [decide_eq_false h2]
      have hr := HR.out
      unfold blockM at hr
      rw [if_neg (by rw [HK.out, HN.out]; decide), if_pos (by omega)] at hr
      subst hr
      clear h2
      go_wp2
      go_ret2
      exact ⟨none, 0, rfl, Nat.le_refl _, Bs.nil _ _ _, Below.refl _ _⟩
  · rw [decide_eq_false h1]
    have hr := HR.out
    unfold blockM at hr
    rw [if_pos (by omega)] at hr
    subst hr
    clear h1
    go_wp2
    go_ret2
    exact ⟨none, 0, rfl, Nat.le_refl _, Bs.nil _ _ _, Below.refl _ _⟩
end Go.Proofs.Ytohpgfefdlccmaa.StreamSumW
