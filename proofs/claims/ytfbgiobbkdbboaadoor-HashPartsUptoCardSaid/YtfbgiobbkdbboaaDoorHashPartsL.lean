/-
  The walk of ticketwardkeep.HashParts: it returns true and writes nothing that was there. Conditions: the program's own table; bulk at most 1048576.
-/
import Derived.Test.YtfbgiobbkdbboaaDoorHashUse
import Derived.Test.YtfbgiobbkdbboaaDoorTree
namespace Go.Proofs.YtfbgiobbkdbboaaDoor.HashPartsL
open Go.RowKit BytesW CellsW WordsW ArrW HashM HashX HashMath HashCompW HashFinW HashRightW HashSumW HashSameW HashMoreW HashUseW RowsW SConcatW

theorem hc_not {S : List Nat} {long : Int} {A : Option Addr} {n c : Nat} {j : Nat} {x : Int} (h : (hc S long (.slice A n c))[j]? = some (.int .u8 x)) : False := by
  have hm := List.mem_of_getElem? h
  unfold hc at hm
  rcases List.mem_append.1 hm with h | h
  · simp [wc] at h
  · simp at h
/-- Bytes do not lie where a message lies. -/
theorem bs_ne {V : World} {B g : Nat} {t : TypeId} {A : Option Addr} {l : List UInt8} {S : List Nat} {long : Int} {A2 : Option Addr} {n c : Nat} (h : Bs V B A l) (ha : Arr V g t (hc S long (.slice A2 n c))) (h0 : 0 < l.length) : ∀ ad, A = some ad → ad.block ≠ g := by
  intro ad e hb
  obtain ⟨ad', e', _, hcl⟩ := h h0
  rw [e] at e'
  cases e'
  have h1 := hcl 0 h0
  rw [add_zero] at h1
  unfold Arr at ha
  unfold World.cell? at h1
  rw [hb, ha] at h1
  simp only at h1
  split at h1
  · cases h1
  · exact hc_not (by simpa using h1)
theorem bs_keep0 {w w' : World} {g : Nat} {A : Option Addr} {l : List UInt8} (h : Bs w w.heap.size A l) (hg : w.grownBy w' (some g)) (hne : 0 < l.length → ∀ ad, A = some ad → ad.block ≠ g) : Bs w' w'.heap.size A l :=
  fun h0 => bs_keep h hg (hne h0) h0

theorem total (ls : List (List UInt8)) (k : Nat) (h : k < ls.length) : (ls.take (k + 1)).flatten = (ls.take k).flatten ++ ls[k] ∧ (ls.take k).flatten.length + ls[k].length ≤ tot ls := by
  refine ⟨by rw [List.take_succ_eq_append_getElem h, List.flatten_append]; simp, ?_⟩
  rw [tot_flatten]
  exact (tot_take ls k h).2

/-- More at a valid message, its answer named. -/
theorem more_as (S : List Nat) (hS : Sm S) (L : Nat) (A : Option Addr) (r : List UInt8) (c : Nat) (B : Option Addr) (b : List UInt8) (d : Nat) (w : World) (S' : List Nat) (r' : List UInt8) (n' : Nat)
    (hA : Bs w w.heap.size A r) (hcr : r.length ≤ c) (hB : Bs w w.heap.size B b) (hdb : b.length ≤ d) (hr : r.length = L % 64) (hL : L + b.length ≤ 1099511627776) (hT : TabR w) (h1 : run S (r ++ b) = S') (h2 : over (r ++ b) = r') (h3 : L + b.length = n') :
    Calls Tryd.prog 13 #[.agg (hc S (L : Int) (.slice A r.length c)).toArray, .slice B b.length d] w fun e w' =>
      ∃ A' c', e = .returned (.tuple #[.agg (hc S' (n' : Int) (.slice A' r'.length c')).toArray, .int .i64 0]) ∧ r'.length ≤ c' ∧ Bs w' w'.heap.size A' r' ∧ Below w.heap.size w w' := by
  subst h1 h2 h3
  exact more_ok S hS L A r c B b d w hA hcr hB hdb hr hL hT

set_option maxHeartbeats 8000000 in
set_option maxRecDepth 100000 in
theorem walk (a0 : Option Addr) (l0 : List UInt8) (c0 : Nat) (a1 : Option Addr) (l1 : List UInt8) (c1 : Nat) (a2 : Option Addr) (l2 : List UInt8) (c2 : Nat) (w : World) (hA : Bs w w.heap.size a0 l0) (hc0 : l0.length ≤ c0) (hl0 : l0.length ≤ 1048576) (hB : Bs w w.heap.size a1 l1) (hc1 : l1.length ≤ c1) (hl1 : l1.length ≤ 1048576) (hC : Bs w w.heap.size a2 l2) (hc2 : l2.length ≤ c2) (hl2 : l2.length ≤ 1048576) (hT : TabR w) :
    Calls Tryd.prog 5 #[.slice a0 l0.length c0, .slice a1 l1.length c1, .slice a2 l2.length c2] w fun e w' => e = .returned (.bool true) ∧ Below w.heap.size w w' := by
  have HR := Lib.hid hT
  have HMs : Hid (∀ V : World, Below w.heap.size w V → Ms (V.alloc (.cells #[.slice a0 l0.length c0, .slice a1 l1.length c1, .slice a2 l2.length c2] 22)) (V.heap.size + 1) (some ⟨V.heap.size, 0, none⟩) [l0, l1, l2]) := Lib.hid (fun V hV => by
    refine Ms.laid V [.slice a0 l0.length c0, .slice a1 l1.length c1, .slice a2 l2.length c2] [l0, l1, l2] _ rfl (0, 0) rfl (fun k u l hu hl => ?_) (V.heap.size + 1) (Nat.lt_succ_self _)
    match k, hu, hl with
    | 0, hu, hl => simp at hu hl; subst hu; subst hl; exact ⟨a0, c0, rfl, hc0, (hA.below hV).more hV.size⟩
    | 1, hu, hl => simp at hu hl; subst hu; subst hl; exact ⟨a1, c1, rfl, hc1, (hB.below hV).more hV.size⟩
    | 2, hu, hl => simp at hu hl; subst hu; subst hl; exact ⟨a2, c2, rfl, hc2, (hC.below hV).more hV.size⟩)
  obtain ⟨ls, hls⟩ : ∃ ls : List (List UInt8), ls = [l0, l1, l2] := ⟨_, rfl⟩
  have h3 : ls.length = 3 := by rw [hls]; rfl
  have htot : tot ls ≤ 3145728 := by rw [hls]; simp [tot]; omega
  have HRow : Hid (∀ k, k < 3 → ∃ a c, ([.slice a0 l0.length c0, .slice a1 l1.length c1, .slice a2 l2.length c2] : List Value)[k]? = some (.slice a (ls.getD k []).length c) ∧ (ls.getD k []).length ≤ c ∧ Bs w w.heap.size a (ls.getD k [])) := Lib.hid (fun k hk => by
    subst hls
    match k, hk with
    | 0, _ => exact ⟨a0, c0, rfl, hc0, hA⟩
    | 1, _ => exact ⟨a1, c1, rfl, hc1, hB⟩
    | 2, _ => exact ⟨a2, c2, rfl, hc2, hC⟩)
  rw [← hls] at HMs
  obtain ⟨fs, u27⟩ := hash_struct
  have U27 := Lib.hid u27
  clear hT hA hB hC u27 hls
  go_enter Tryd.func5, Tryd.ntmps5
  go_wp2_with fail
  refine (HashAliveW.alive_any w HR.out).mono ?_
  rintro e w1 ⟨rfl, b1⟩
  have X1 := Lib.hid b1
  clear b1
  go_wp2_with fail
  refine (begin_any w1).mono ?_
  rintro e w2 ⟨rfl, b2⟩
  have X2 := Lib.hid (X1.out.trans (b2.mono X1.out.size))
  clear b2
  have N0 := Lib.hid (hc_len IV 0 (.slice none 0 0) rfl)
  go_upto_region 4 with (refine Arr.storeL (Arr.new w2 _ _) rfl 27 (.tmp 7) (.tmp 19) rfl rfl (hc IV 0 (.slice none 0 0)) rfl hash_size (by rfl) N0.out (hc_one _ _ _ _ _) ?_)
  generalize hw3 : World.setRow _ _ _ = w3
  obtain ⟨p7, b3, z3⟩ := filled hw3
  have X3 := Lib.hid (X2.out.trans (b3.mono X2.out.size))
  obtain ⟨g7, hg7⟩ : ∃ g, w2.heap.size = g := ⟨_, rfl⟩
  rw [hg7] at p7 z3 ⊢
  have hgw : w.heap.size ≤ g7 := by rw [← hg7]; exact X2.out.size
  have P7 := Lib.hid p7
  have b4 := (Below.refl w3.heap.size w3).alloc (Nat.le_refl _) (.cells #[.slice a0 l0.length c0, .slice a1 l1.length c1, .slice a2 l2.length c2] 22)
  have pL := Arr.new w3 #[.slice a0 l0.length c0, .slice a1 l1.length c1, .slice a2 l2.length c2] 22
  clear b3 hw3 p7 hg7
  go_wp2
  generalize hw4 : World.alloc _ _ = w4
  rw [hw4] at b4 pL
  have X4 := Lib.hid (X3.out.trans (b4.mono X3.out.size))
  have P74 := Lib.hid (P7.out.below b4 P7.out.lt)
  have hn4 : w4.heap.size = w3.heap.size + 1 := by rw [← hw4]; simp
  rw [z3] at pL hn4
  have PL : Hid (Arr w4 (g7 + 1) 22 [.slice a0 l0.length c0, .slice a1 l1.length c1, .slice a2 l2.length c2]) := Lib.hid pL
  have Hn4 := Lib.hid hn4
  clear b4 hw4 pL hn4 z3
  go_loopw [25] (fun v wr => ∃ (k : Nat) (A5 : Option Addr) (c5 : Nat) (S5 : List Nat) (r5 : List UInt8) (n5 : Nat), k ≤ 3 ∧ v = .int .i64 (k : Int) ∧ S5 = run IV (ls.take k).flatten ∧ r5 = over (ls.take k).flatten ∧ n5 = (ls.take k).flatten.length ∧ Arr wr g7 27 (hc S5 (n5 : Int) (.slice A5 r5.length c5)) ∧ r5.length ≤ c5 ∧ Bs wr wr.heap.size A5 r5 ∧ w4.grownBy wr (some g7)) (fun v _ => 3 - (intOf v).toNat)
  case atStart => exact ⟨0, none, 0, IV, [], 0, by omega, rfl, (run_stop IV [] (by decide)).symm, (over_small [] (by decide)).symm, rfl, P74.out, Nat.le_refl _, Bs.nil _ _ _, grownRefl _ _⟩
  case round =>
    obtain ⟨k, A5, c5, S5, r5, n5, hk, rfl, hS5, hr5, hn5, p7, hc5, s5, hg⟩ := hrel
    have HS5e := Lib.hid hS5
    have HS5 := Lib.hid (show Sm S5 by rw [hS5]; exact sm_run _ _ sm_IV)
    have Hr5 := Lib.hid hr5
    have Hn5 := Lib.hid hn5
    have P7r := Lib.hid p7
    have N5 := Lib.hid (hc_len S5 (n5 : Int) (.slice A5 r5.length c5) HS5.out.1)
    have S5b := Lib.hid s5
    have hr64 : r5.length = n5 % 64 := by rw [hr5, hn5, over_len]
    have HG := Lib.hid hg
    have Xr := Lib.hid (X4.out.trans (grownBelow hg hgw X4.out.size))
    clear hS5 hr5 hn5 p7 s5 hg
    by_cases hlt : k < 3
    · have ct : decide ((k : Int) < 3) = true := decide_eq_true (by omega)
      obtain ⟨a, c, hrow, hpc, hpb⟩ := HRow.out k hlt
      obtain ⟨e1, e2⟩ := total ls k (by omega)
      have ep : ls[k]'(by omega) = ls.getD k [] := by simp [List.getD_eq_getElem?_getD, h3, hlt]
      rw [ep] at e1 e2
      obtain ⟨p, hp⟩ : ∃ p, ls.getD k [] = p := ⟨_, rfl⟩
      rw [hp] at hrow hpc hpb e1 e2
      rw [← Hn5.out] at e2
      have cL := (arr_grown PL.out HG.out (by omega)).cell k
      rw [hrow] at cL
      have HMo := Lib.hid (more_ok S5 HS5.out n5 A5 r5 c5 a p c wr S5b.out hc5 ((hpb.below Xr.out).more Xr.out.size) hpc hr64 (by omega) (HR.out.below Xr.out))
      have HE1 := Lib.hid e1
      have hln : n5 + p.length ≤ 3145728 := by omega
      clear hrow hpb ep hp e1 e2 hr64
      go_wp2_with (refine Arr.loadL P7r.out rfl 27 (.tmp 7) rfl rfl U27.out rfl hash_size N5.out ?_)
      refine HMo.out.mono ?_
      clear HMo cL
      rintro e w6 ⟨A6, c6, rfl, hc6, s6, b6⟩
      have X6 := Lib.hid (Xr.out.trans (b6.mono Xr.out.size))
      have G6 := Lib.hid (grownTrans HG.out (grownOf (g := g7) b6))
      have P76 := Lib.hid (P7r.out.below b6 P7r.out.lt)
      obtain ⟨S6, hS6⟩ : ∃ S6, run S5 (r5 ++ p) = S6 := ⟨_, rfl⟩
      have HS6 := Lib.hid (show Sm S6 by rw [← hS6]; exact sm_run _ _ HS5.out)
      have HS6e := Lib.hid (show S6 = run IV (ls.take (k + 1)).flatten by rw [← hS6, HE1.out, run_more IV (ls.take k).flatten p, ← HS5e.out, ← Hr5.out])
      obtain ⟨r6, hr6⟩ : ∃ r6, over (r5 ++ p) = r6 := ⟨_, rfl⟩
      have Hr6e := Lib.hid (show r6 = over (ls.take (k + 1)).flatten by rw [← hr6, HE1.out, over_more (ls.take k).flatten p, ← Hr5.out])
      obtain ⟨n6, hn6⟩ : ∃ n6, n5 + p.length = n6 := ⟨_, rfl⟩
      have Hn6e := Lib.hid (show n6 = (ls.take (k + 1)).flatten.length by rw [HE1.out, List.length_append, ← Hn5.out, hn6])
      rw [hr6] at hc6 s6
      rw [hS6, hr6, hn6]
      rw [hn6] at hln
      have N6 := Lib.hid (hc_len S6 (n6 : Int) (.slice A6 r6.length c6) HS6.out.1)
      have S6b := Lib.hid s6
      clear hS6 hr6 hn6 b6 s6
      go_upto_region 8 with (refine Arr.storeL (Arr.new w6 _ _) rfl 27 (.tmp 10) (.tmp 33) rfl rfl (hc S6 (n6 : Int) (.slice A6 r6.length c6)) rfl hash_size (by rfl) N6.out (hc_one _ _ _ _ _) ?_)
      generalize hw7 : World.setRow _ _ _ = w7
      obtain ⟨p10, b7, z7⟩ := filled hw7
      have X7 := Lib.hid (X6.out.trans (b7.mono X6.out.size))
      have G7 := Lib.hid (grownTrans G6.out (grownOf (g := g7) b7))
      have P77 := Lib.hid (P76.out.below b7 P76.out.lt)
      have P10 := Lib.hid p10
      have S7b := Lib.hid ((S6b.out.below b7).more b7.size)
      have HRi := Lib.hid (right_ok S6 HS6.out n6 A6 r6.length c6 w7 (by rw [Hr6e.out, Hn6e.out, over_len]) (by omega))
      clear b7 hw7 p10 z7
      go_wp2_with (refine loadLg P10.out rfl 27 (.tmp 10) rfl rfl U27.out rfl hash_size N6.out ?_)
      refine HRi.out.mono ?_
      clear HRi
      rintro e w8 ⟨rfl, b8⟩
      have X8 := Lib.hid (X7.out.trans (b8.mono X7.out.size))
      have G8 := Lib.hid (grownTrans G7.out (grownOf (g := g7) b8))
      have P78 := Lib.hid (P77.out.below b8 P77.out.lt)
      have P108 := Lib.hid (P10.out.below b8 P10.out.lt)
      have S8b := Lib.hid ((S7b.out.below b8).more b8.size)
      clear b8
      go_wp2_with (first | (refine Arr.loadL P108.out rfl 27 (.tmp 10) rfl rfl U27.out rfl hash_size N6.out ?_) | (refine Arr.storeL P78.out rfl 27 (.tmp 7) (.tmp 42) rfl rfl (hc S6 (n6 : Int) (.slice A6 r6.length c6)) rfl hash_size N5.out N6.out (hc_one _ _ _ _ _) ?_))
      have P79 := Lib.hid (P78.out.row (hc S6 (n6 : Int) (.slice A6 r6.length c6)))
      have g9 := grown_row w8 g7 (hc S6 (n6 : Int) (.slice A6 r6.length c6)).toArray
      have S9b := Lib.hid (bs_keep0 S8b.out g9 (bs_ne S8b.out P78.out))
      have G9 := Lib.hid (grownTrans G8.out g9)
      go_roundw
      case rel => exact ⟨k + 1, A6, c6, S6, r6, n6, by omega, by go_num, HS6e.out, Hr6e.out, Hn6e.out, P79.out, hc6, S9b.out, G9.out⟩
      case measure => simp [intOf]; omega
    · obtain rfl : k = 3 := by omega
      have ct : decide ((3 : Int) < 3) = false := rfl
      have hT3 : (ls.take 3).flatten = ls.flatten := by rw [List.take_of_length_le (by omega)]
      rw [hT3] at HS5e Hr5 Hn5
      obtain ⟨T, hTe⟩ : ∃ T, ls.flatten = T := ⟨_, rfl⟩
      have hTl : T.length ≤ 3145728 := by rw [← hTe, tot_flatten]; exact htot
      rw [hTe] at HS5e Hr5 Hn5
      have HTe := Lib.hid hTe
      have HEn := Lib.hid (end_ok S5 HS5.out n5 A5 r5 c5 wr S5b.out hr64 (by rw [Hn5.out]; omega) (HR.out.below Xr.out))
      have hD : hend S5 r5 n5 = HashM.sum T := by rw [HS5e.out, Hr5.out, Hn5.out]; exact hend_run IV T T.length
      rw [hD] at HEn
      have N32 := Lib.hid (show (Lib.byteCells (HashM.sum T)).length = 32 by rw [Lib.byteCells_length]; exact hend_len IV sm_IV _ _)
      clear hT3 hTe hD hr64 hlt P74 HG PL
      simp only [show ((3 : Nat) : Int) = 3 from rfl]
      go_wp2_with (refine Arr.loadL P7r.out rfl 27 (.tmp 7) rfl rfl U27.out rfl hash_size N5.out ?_)
      refine HEn.out.mono ?_
      clear HEn
      rintro e w6 ⟨rfl, b6⟩
      have X6 := Lib.hid (Xr.out.trans (b6.mono Xr.out.size))
      have P76 := Lib.hid (P7r.out.below b6 P7r.out.lt)
      have S6b := Lib.hid ((S5b.out.below b6).more b6.size)
      clear b6
      go_upto_region 13 with (refine Arr.storeL (Arr.new w6 _ _) rfl 31 (.tmp 12) (.tmp 47) rfl rfl (Lib.byteCells (HashM.sum T)) rfl dig_size (by rfl) N32.out (bytes_one _) ?_)
      generalize hw7 : World.setRow _ _ _ = w7
      obtain ⟨p12, b7, -⟩ := filled hw7
      have X7 := Lib.hid (X6.out.trans (b7.mono X6.out.size))
      have P77 := Lib.hid (P76.out.below b7 P76.out.lt)
      have S7b := Lib.hid ((S6b.out.below b7).more b7.size)
      have P12 := Lib.hid p12
      have m8 := HMs.out w7 X7.out
      have b8 := (Below.refl w7.heap.size w7).alloc (Nat.le_refl _) (.cells #[.slice a0 l0.length c0, .slice a1 l1.length c1, .slice a2 l2.length c2] 22)
      have hm8 := concat_any (some ⟨w7.heap.size, 0, none⟩) ls 3 _ (m8.more (by simp)) (by omega) (by omega)
      rw [h3] at hm8
      have HCo := Lib.hid hm8
      clear b7 hw7 p12 m8 hm8
      obtain ⟨g12, hg12⟩ : ∃ g, w6.heap.size = g := ⟨_, rfl⟩
      rw [hg12] at P12 ⊢
      clear hg12
      go_wp2_with fail
      refine HCo.out.mono ?_
      clear HCo
      rintro e w9 ⟨v9, rfl, r9, b9⟩
      obtain ⟨A9, c9, rfl, s9, hc9⟩ := r9.form2
      rw [HTe.out] at s9 hc9 ⊢
      have b9' := b8.trans (b9.mono (by simp))
      have X9 := Lib.hid (X7.out.trans (b9'.mono X7.out.size))
      have P79 := Lib.hid (P77.out.below b9' P77.out.lt)
      have S9b := Lib.hid ((S7b.out.below b9').more b9'.size)
      have P129 := Lib.hid (P12.out.below b9' P12.out.lt)
      have T9 := Lib.hid s9
      clear b8 b9 b9' s9 r9
      go_wp2_with fail
      refine (begin_any w9).mono ?_
      rintro e w10 ⟨rfl, b10⟩
      have X10 := Lib.hid (X9.out.trans (b10.mono X9.out.size))
      have P710 := Lib.hid (P79.out.below b10 P79.out.lt)
      have S10b := Lib.hid ((S9b.out.below b10).more b10.size)
      have P1210 := Lib.hid (P129.out.below b10 P129.out.lt)
      have T10 := Lib.hid ((T9.out.below b10).more b10.size)
      have hmo := more_as IV sm_IV 0 none [] 0 A9 T c9 w10 S5 r5 n5 (Bs.nil _ _ _) (Nat.le_refl _) T10.out hc9 rfl (by omega) (HR.out.below X10.out) HS5e.out.symm Hr5.out.symm (by rw [Hn5.out]; simp)
      simp only [List.length_nil, show ((0 : Nat) : Int) = 0 from rfl] at hmo
      have HMo := Lib.hid hmo
      clear hmo b10
      go_wp2_with fail
      refine HMo.out.mono ?_
      clear HMo
      rintro e w11 ⟨A11, c11, rfl, hc11, s11, b11⟩
      have X11 := Lib.hid (X10.out.trans (b11.mono X10.out.size))
      have P711 := Lib.hid (P710.out.below b11 P710.out.lt)
      have S11b := Lib.hid ((S10b.out.below b11).more b11.size)
      have P1211 := Lib.hid (P1210.out.below b11 P1210.out.lt)
      have T11 := Lib.hid ((T10.out.below b11).more b11.size)
      have N11 := Lib.hid (hc_len S5 (n5 : Int) (.slice A11 r5.length c11) HS5.out.1)
      have R11 := Lib.hid s11
      clear b11 s11
      go_upto_region 15 with (refine Arr.storeL (Arr.new w11 _ _) rfl 27 (.tmp 15) (.tmp 58) rfl rfl (hc S5 (n5 : Int) (.slice A11 r5.length c11)) rfl hash_size (by rfl) N11.out (hc_one _ _ _ _ _) ?_)
      generalize hw12 : World.setRow _ _ _ = w12
      obtain ⟨p15, b12, z12⟩ := filled hw12
      have X12 := Lib.hid (X11.out.trans (b12.mono X11.out.size))
      have P712 := Lib.hid (P711.out.below b12 P711.out.lt)
      have S12b := Lib.hid ((S11b.out.below b12).more b12.size)
      have P1212 := Lib.hid (P1211.out.below b12 P1211.out.lt)
      have T12 := Lib.hid ((T11.out.below b12).more b12.size)
      have R12 := Lib.hid ((R11.out.below b12).more b12.size)
      have P15 := Lib.hid p15
      clear b12 hw12 p15 z12
      have heq : ∀ x : Ab w12, (Op.equalIn 10000 31 (.agg (Lib.byteCells (HashM.sum T)).toArray) (.agg (Lib.byteCells (HashM.sum T)).toArray)).run Tryd.prog x.val = .ok true x.val := fun x => eql_dig _ (hend_len IV sm_IV _ _) x.val
      have HEq := Lib.hid heq
      have hne := ab w12
      have x0 := (Below.refl w12.heap.size w12).drew
      have HSu := Lib.hid (fun (V : World) (hV : Below w12.heap.size w12 V) => sum_any A9 T c9 V ((T12.out.below hV).more hV.size) hc9 (by omega) (HR.out.below (X12.out.trans (hV.mono X12.out.size))))
      have HSa := Lib.hid (fun (V : World) (hV : Below w12.heap.size w12 V) => same_any S5 HS5.out.1 (n5 : Int) A5 A11 r5 c5 c11 V ((S12b.out.below hV).more hV.size) ((R12.out.below hV).more hV.size))
      obtain ⟨V0, hV0⟩ : ∃ x, w12.drew = x := ⟨_, rfl⟩
      clear heq
      refine wp_region_tree (.read 0 (.read 1 (.read 2 (.read 3 (.read 4 (.read 5 (.read 6 (.read 7 (.read 8 (.step 9 (.read 10 (.read 11 (.read 12 (.read 13 (.read 14 (.step 15 (.read 16 (.read 17 .done)))))))))))))))))) (fun W => ∃ x : Ab w12, W = x.val) (by kernel_rfl) (by kernel_rfl) (by decide) (fun _ _ d _ _ h => by cases d <;> exact h) (Cl.of (Below.refl _ _).drew) ?_
      rw [hV0] at x0 ⊢
      clear hV0
      rename_i Kr hKr
      have hSu := HSu.out V0 x0
      refine tree_read rfl (fun K hK => ?_)
      go_simp
      refine hK _ ?_
      clear hK K
      refine tree_read rfl (fun K hK => ?_)
      go_simp
      refine hK _ ?_
      clear hK K
      refine tree_read rfl (fun K hK => ?_)
      go_simp
      refine hK _ ?_
      clear hK K
      refine tree_read rfl (fun K hK => ?_)
      go_simp
      refine hK _ ?_
      clear hK K
      refine tree_read rfl (fun K hK => ?_)
      go_simp
      refine hK _ ?_
      clear hK K
      refine tree_read rfl (fun K hK => ?_)
      go_simp
      refine hK _ ?_
      clear hK K
      refine tree_read rfl (fun K hK => ?_)
      go_simp
      refine hK _ ?_
      clear hK K
      refine tree_read rfl (fun K hK => want rfl ⟨_, fun W hW => Arr.loadPartE (zs := []) (by rw [List.append_nil]; exact P1212.out.below (Cl.below hW) P1212.out.lt) 31 (.tmp 12) rfl rfl dig rfl dig_size N32.out, hK _ ?_⟩)
      clear hK K
      refine tree_read rfl (fun K hK => ?_)
      go_simp
      refine hK _ ?_
      clear hK K
      refine tree_step rfl (Cl.of x0) (fun K hK => ?_)
      go_simp
      refine hSu.mono ?_
      clear hSu
      rintro e V3 ⟨rfl, b3⟩
      have x3 := x0.trans (b3.mono x0.size)
      refine hK _ _ ⟨Cl.of x3, ?_⟩
      clear hK K b3
      have heq := HEq.out
      refine tree_read rfl (fun K hK => ?_)
      go_simp
      refine hK _ ?_
      clear hK K
      refine tree_read rfl (fun K hK => ?_)
      go_simp
      refine hK _ ?_
      clear hK K
      refine tree_read rfl (fun K hK => ?_)
      go_simp
      refine hK _ ?_
      clear hK K
      refine tree_read rfl (fun K hK => want rfl ⟨_, fun W hW => Arr.loadPartE (zs := []) (by rw [List.append_nil]; exact P712.out.below (Cl.below hW) P712.out.lt) 27 (.tmp 7) rfl rfl U27.out rfl hash_size N5.out, hK _ ?_⟩)
      clear hK K
      refine tree_read rfl (fun K hK => want rfl ⟨_, fun W hW => Arr.loadPartE (zs := []) (by rw [List.append_nil]; exact P15.out.below (Cl.below hW) P15.out.lt) 27 (.tmp 15) rfl rfl U27.out rfl hash_size N11.out, hK _ ?_⟩)
      clear hK K
      have hSa := HSa.out V3 x3
      refine tree_step rfl (Cl.of x3) (fun K hK => ?_)
      go_simp
      refine hSa.mono ?_
      clear hSa
      rintro e V4 ⟨rfl, b4⟩
      have x4 := x3.trans (b4.mono x3.size)
      refine hK _ _ ⟨Cl.of x4, ?_⟩
      clear hK K b4
      refine tree_read rfl (fun K hK => ?_)
      go_simp
      refine hK _ ?_
      clear hK K
      refine tree_read rfl (fun K hK => ?_)
      go_simp
      refine hK _ ?_
      clear hK K
      refine tree_done ?_
      refine hKr _ _ ?_
      go_wp2
      go_ret
      exact ⟨rfl, X12.out.trans (x4.mono X12.out.size)⟩
end Go.Proofs.YtfbgiobbkdbboaaDoor.HashPartsL
