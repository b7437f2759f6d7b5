/-
  ticketwardref.ESum: what it hands back. Conditions: in the statement.
-/
import Derived.Test.YtmmmogccjopfeaaDoorWideBlock
import Derived.Test.YtmmmogccjopfeaaDoorArrY
namespace Go.Proofs.YtmmmogccjopfeaaDoor.WideEndW
open Go.RowKit BytesW CellsW LongsW ArrW WideM WideX WideBlockW BigW BigNewW BigMulW BigFillW BigSetW

/-- The length of a slice's value. -/
def sliceLen : Value → Nat
  | .slice _ n _ => n
  | _ => 0
theorem start1 {w W : World} {X : Array Value} {t : TypeId} (h : w.alloc (.cells X t) = W) : Arr W w.heap.size t X.toList ∧ Below w.heap.size w W ∧ W.heap.size = w.heap.size + 1 := by
  subst h
  exact ⟨Arr.new w X t, (Below.refl w.heap.size w).alloc (Nat.le_refl _) _, by simp⟩
/-- Byte p of a digest. -/
def db (S : List Nat) (p : Nat) : UInt8 := UInt8.ofNat (S.getD (p / 8) 0 / 2 ^ (56 - p % 8 * 8))
theorem digest_db (S : List Nat) (h : S.length = 8) : digest S = (List.range 64).map (db S) := by
  obtain ⟨a, b, c, d, e, f, g, i, rfl⟩ := eight h
  simp only [digest, List.flatMap_cons, List.flatMap_nil, VecM.be]
  simp [List.range, List.range.loop, db, Nat.div_div_eq_div_mul]
theorem digest_of (S : List Nat) (h : S.length = 8) (D : List UInt8) (hl : D.length = 64) (hD : ∀ p, p < 64 → D.getD p 0 = db S p) : D = digest S := by
  rw [digest_db S h]
  apply List.ext_getElem
  · simp [hl]
  · intro p h1 h2
    have := hD p (by omega)
    rw [List.getD_eq_getElem?_getD, List.getElem?_eq_getElem h1] at this
    simpa using this
theorem digest_len (S : List Nat) (h : S.length = 8) : (digest S).length = 64 := by rw [digest_db S h]; simp
theorem bc_set (L : List UInt8) (k : Nat) (x : UInt8) : (Lib.byteCells L).set k (.int .u8 (x.toNat : Int)) = Lib.byteCells (L.set k x) := by simp [Lib.byteCells, List.map_set]
theorem block_length (s : List Nat) (b : List UInt8) (h : s.length = 8) : (block s b).length = 8 := by simp [block, St.toList, h]
theorem block_lt (s : List Nat) (b : List UInt8) : ∀ x ∈ block s b, x < 18446744073709551616 := by
  intro x hx
  unfold block at hx
  obtain ⟨k, hk, rfl⟩ := List.mem_iff_getElem.1 hx
  rw [List.getElem_zipWith]
  omega
theorem run_step (S : List Nat) (P : List UInt8) (k : Nat) (h : k + 128 ≤ P.length) : run S (P.drop k) = run (block S ((P.drop k).take 128)) (P.drop (k + 128)) := by
  rw [run, dif_pos (by rw [List.length_drop]; omega), List.drop_drop]
theorem run_end (S : List Nat) (P : List UInt8) : run S (P.drop P.length) = S := by
  rw [run, dif_neg (by rw [List.length_drop]; omega)]
theorem IV_lt : ∀ x ∈ IV, x < 18446744073709551616 := by decide
/-- The table of the square roots. -/
def TabG (w : World) : Prop := ∀ j, j < 8 → w.cell? ⟨0, j, none⟩ = some (.int .u64 ((IV.getD j 0 : Nat) : Int))
theorem TabG.below {w w' : World} (h : TabG w) (hb : Below w.heap.size w w') : TabG w' := fun j hj => (hb.cell (World.block_lt_of_cell? _ _ (h j hj))).trans (h j hj)
theorem TabG.ls {w : World} (h : TabG w) : Ls w w.heap.size (some ⟨0, 0, none⟩) IV := fun _ => ⟨_, rfl, World.block_lt_of_cell? _ _ (h 0 (by decide)), fun k hk => by
  have h8 : k < 8 := hk
  have e := h k h8
  rw [show (⟨0, 0, none⟩ : Addr).add k = ⟨0, k, none⟩ by by_cases h0 : k = 0 <;> simp [Addr.add, h0], e]
  simp [List.getD_eq_getElem?_getD, List.getElem?_eq_getElem hk]⟩

set_option maxHeartbeats 8000000 in
set_option maxRecDepth 100000 in
theorem esum_any (A : Option Addr) (l : List UInt8) (c : Nat) (w : World) (hA : Bs w w.heap.size A l) (hl : l.length ≤ 140737488351232) (hG : TabG w) (hT : TabE w) :
    Calls Tryd.prog 6 #[.slice A l.length c] w fun e w' => e = .returned (.agg (Lib.byteCells (WideM.sum l)).toArray) ∧ Below w.heap.size w w' := by
  have HT := Lib.hid hT
  have HGt := Lib.hid hG
  have HA := Lib.hid hA
  clear hT hG hA
  go_enter Tryd.func6, Tryd.ntmps6
  go_upto_region 1 with (fail)
  generalize hW : World.alloc _ _ = W
  obtain ⟨H1, hbw, hsz⟩ := start1 hW
  clear hW
  have a1 : Arr W w.heap.size 24 (Lib.byteCells (List.replicate 64 0)) := H1
  have HA1 := Lib.hid ((HA.out.below hbw).below (((Below.refl w.heap.size W).alloc (by omega) (.cells #[] 5))))
  have hr0 := Row.empty (w.heap.size + 1) W (by omega)
  have hlen : ([] : List UInt8).length + l.length ≤ 140737488355328 := by simp; omega
  have hB1 : w.heap.size + 1 ≤ (W.alloc (.cells #[] 5)).heap.size := by simp; omega
  have Hs := Lib.hid hsz
  have Ha1 := Lib.hid a1
  have HT1 := Lib.hid (HT.out.below hbw)
  have HG1 := Lib.hid (HGt.out.below hbw)
  have Hbw := Lib.hid hbw
  clear a1 H1 HT HGt hbw hsz
  have hbE : Below (w.heap.size + 1) W (W.alloc (.cells #[] 5)) := (Below.refl _ W).alloc (by rw [Hs.out]; exact Nat.le_refl _) _
  go_wp2_with (at_builtin; go_must (refine appN rfl (.tmp 9) (.tmp 10) rfl (w.heap.size + 1) w.heap.size _ [] rfl hr0 A l c rfl HA1.out hlen hB1 ?_))
  intro v1 w1 hr1 hb1
  clear hr0 HA1
  have hb2 := hbE.trans hb1
  have hnew := new1 w1 128 128 rfl
  have hB2 := hb2.size
  have hlen2 : l.length + 1 ≤ 140737488355328 := by omega
  go_wp2_with (at_builtin; go_must (refine app1 rfl (.tmp 11) (.tmp 12) rfl (w.heap.size + 1) _ l rfl (hr1.alloc _) ⟨w1.heap.size, 0, none⟩ 1 128 rfl hnew hlen2 (by rw [Hs.out] at hB2; simp; omega) ?_))
  intro v2 w2 hr2 hb3
  clear hr1 hnew hlen hlen2
  have hb4 := (hb2.alloc (by rw [Hs.out] at hB2; exact hB2) _).trans hb3
  have HB4 := Lib.hid hb4
  clear hb1 hb2 hb3 hbE hB1 hB2 hb4
  go_wp2
  go_loopw [3] (fun v wr => ∃ z : Nat, z ≤ zeros l.length ∧ Row (w.heap.size + 1) wr v (l ++ [128] ++ List.replicate z 0) ∧ Below (w.heap.size + 1) W wr) (fun v _ => (128 - (sliceLen v + 16) % 128) % 128)
  case atStart => exact ⟨0, Nat.zero_le _, by simpa using hr2, HB4.out⟩
  case round =>
    clear hr2 HB4
    obtain ⟨z, hz, hrow, hb⟩ := hrel
    obtain ⟨A3, c3, rfl, hV, hcap⟩ := hrow.form2
    have hN : (l ++ [128] ++ List.replicate z 0).length = l.length + 1 + z := by simp only [List.length_append, List.length_replicate, List.length_singleton]
    have hB := hb.size
    have hz6 : zeros l.length = (128 - (l.length + 17) % 128) % 128 := rfl
    have hsnoc : (l ++ [128] ++ List.replicate z 0) ++ [0] = l ++ [128] ++ List.replicate (z + 1) 0 := by
      rw [List.replicate_succ', ← List.append_assoc]
    generalize hxs : l ++ [128] ++ List.replicate z 0 = xs at *
    generalize hxl : xs.length = N at *
    have HX := Lib.hid hxl; clear hxl
    have hNb : N ≤ 140737488351400 := by omega
    have HN := Lib.hid hN
    have hlt6' : z < zeros l.length → (decide ((0 : Int) < ((N : Int) + 16) % 128)) = true := fun h => by rw [decide_eq_true_eq]; omega
    have hge6' : ¬ z < zeros l.length → (decide ((0 : Int) < ((N : Int) + 16) % 128)) = false := fun h => by rw [decide_eq_false_iff_not]; omega
    have HL := Lib.hid hlt6'
    have HG := Lib.hid hge6'
    have HZ := Lib.hid hz6
    have HXS := Lib.hid hxs
    clear hN hz6 hlt6' hge6' hxs
    by_cases hlt6 : z < zeros l.length
    · have ht := HL.out hlt6
      have HS := Lib.hid hsnoc
      clear hsnoc HL HG
      have hnew := new1 wr 0 0 rfl
      go_wp2_with (at_builtin; go_must (refine app1 rfl (.tmp 19) (.tmp 20) rfl (w.heap.size + 1) _ xs rfl (hrow.alloc _) ⟨wr.heap.size, 0, none⟩ 1 0 rfl hnew (by rw [HX.out]; omega) (by rw [Hs.out] at hB; simp; omega) ?_))
      intro v' w' hrow' hb'
      clear hnew
      go_wp2
      obtain ⟨A', c', rfl, _, _⟩ := hrow'.form2
      go_roundw
      case rel => exact ⟨z + 1, by omega, by rw [← HS.out]; exact hrow', (hb.alloc (by rw [Hs.out] at hB; exact hB) _).trans hb'⟩
      case measure =>
        rw [decide_eq_true_eq] at ht
        simp only [sliceLen, List.length_append, List.length_singleton, HX.out]
        omega
    · have ht := HG.out hlt6
      clear HL HG
      have hzz : z = zeros l.length := by omega
      have HXS2 : Hid (l ++ [128] ++ List.replicate (zeros l.length) 0 = xs) := Lib.hid (by rw [← hzz]; exact HXS.out)
      clear hsnoc hlt6 hz hzz HXS HZ HN
      obtain ⟨wz, hwz⟩ : ∃ wz, wr.alloc zeroObj = wz := ⟨_, rfl⟩
      have hz0 := zero_arr wr
      rw [hwz] at hz0
      have hszz : wz.heap.size = wr.heap.size + 1 := by rw [← hwz]; simp
      have hbz : Below wr.heap.size wr wz := by rw [← hwz]; exact (Below.refl _ _).alloc (Nat.le_refl _) _
      have hn1 := newint_any l.length (l.length : Int) rfl wz (by omega)
      have HWZ := Lib.hid hwz
      have HSZ := Lib.hid hszz
      have HN1 := Lib.hid hn1
      have HZ0 := Lib.hid hz0
      have HBZ := Lib.hid hbz
      clear hwz hn1 hz0 hbz hszz
      go_wp2_with fail
      rw [show wr.alloc (.cells #[.bool false, .slice none 0 0] 35) = wz from HWZ.out]
      refine HN1.out.mono ?_
      clear HN1
      rintro e w3 ⟨rfl, hi1, hb3⟩
      have HN2 := Lib.hid (newint_any 8 8 rfl w3 (by omega))
      have HI1 := Lib.hid hi1
      have HB3 := Lib.hid hb3
      clear hi1 hb3 ht
      go_wp2_with fail
      refine HN2.out.mono ?_
      clear HN2
      rintro e w4 ⟨rfl, hi2, hb4⟩
      have hi1 := int_below HI1.out hb4
      have hg3 := intAt_lt HI1.out
      have hz4 := (HZ0.out.below HB3.out (by rw [HSZ.out]; omega)).below hb4 (by have := HSZ.out; omega)
      have hbr4 : Below wr.heap.size wr w4 := HBZ.out.trans ((HB3.out.mono (by rw [HSZ.out]; omega)).trans (hb4.mono (by have := HSZ.out; omega)))
      have hm := mul_any wr.heap.size wz.heap.size w3.heap.size false none 0 0 (l.length : Int) 8 w4 hz4 ⟨false, dg l.length, hi1, by simp [sgn, dval_dg], by simp⟩ ⟨false, dg 8, hi2, by simp [sgn, dval_dg], by simp⟩
        (fun _ d h => by have h1 := int_len h hi1; have h2 := dg_length l.length; omega) (fun _ d h => by have h1 := int_len h hi2; have h2 := dg_length 8; omega)
      have HM := Lib.hid hm
      have HB4 := Lib.hid hbr4
      clear hm hz4 hi1 hi2 hg3 hbr4 HI1 HZ0 HB3 HBZ HWZ hb4
      go_wp2_with fail
      refine HM.out.mono ?_
      clear HM
      rintro e w5 ⟨rfl, hV5, hg5⟩
      have HB5 := Lib.hid (HB4.out.trans (below_of_grown hg5 (Nat.le_refl _) HB4.out.size))
      obtain ⟨neg, d, ⟨⟨A5, c5, a5, u5, _⟩, sm5, ht5⟩, hz5, _⟩ := hV5
      have hdv : dval d = l.length * 8 := sgn_nat (by push_cast; exact hz5)
      have hdl : d.length ≤ 3 := tidy_len ht5 (by rw [hdv]; simp only [Nat.reducePow]; omega)
      have hbe := be_dval d sm5 16
      rw [hdv] at hbe
      have hmk : (Instr.makeSlice 22 (.int .i64 16) (.int .i64 16)).run Tryd.prog w5 = .ok (.slice (some ⟨w5.heap.size, 0, none⟩) 16 16) (w5.alloc (.cells (madeCells #[.int .u8 0] 16) 5)) := makeN 16 (by omega) w5
      have hr6 := Row.madeN w5.heap.size 16 w5 (Nat.le_refl _) (by decide)
      have hb6 : Below w5.heap.size w5 (w5.alloc (.cells (madeCells #[.int .u8 0] 16) 5)) := (Below.refl _ _).alloc (Nat.le_refl _) _
      have a6 := a5.alloc (.cells (madeCells #[.int .u8 0] 16) 5)
      have u6 := u5.below hb6
      generalize w5.alloc (.cells (madeCells #[.int .u8 0] 16) 5) = w6 at *
      have hf := fill_any w5.heap.size w5.heap.size wr.heap.size 16 16 c5 neg A5 d _ w6 a6 u6 a5.lt sm5 hr6 (by simp) (by decide) (by omega)
      have HF := Lib.hid hf
      have HBE := Lib.hid hbe
      have HB6 := Lib.hid hb6
      clear hf hbe hb6 a5 a6 u5 u6 hr6 hz5 hdv ht5 sm5 hdl hg5 HB4 HSZ
      go_wp2_with fail
      refine HF.out.mono ?_
      clear HF hmk
      rintro e w7 ⟨rfl, hr7, hb7⟩
      have hbr7 := HB5.out.trans ((HB6.out.mono HB5.out.size).trans (hb7.mono HB5.out.size))
      obtain ⟨A7, c7, e7, hV7, hc7⟩ := hr7.form2
      obtain rfl : A7 = some ⟨w5.heap.size, 0, none⟩ := by injection e7 with h _ _; exact h.symm
      rw [HBE.out] at hV7
      have hrow7 := hrow.below hbr7
      have hB7 := hbr7.size
      have hB7' : w.heap.size + 1 ≤ w7.heap.size := by have := Hs.out; omega
      have hlen7 : xs.length + (VecM.be 16 (l.length * 8)).length ≤ 140737488355328 := by rw [VecM.be_length, HX.out]; omega
      have HV7 := Lib.hid hV7
      have HBR := Lib.hid (hb.trans (hbr7.mono (by have := Hs.out; omega)))
      clear e7 hc7 hr7 hb7 hV7 hbr7 HB5 HB6 hrow hV hB hb hcap
      go_wp2_with (at_builtin; go_must (refine appN rfl (.tmp 28) (.tmp 31) rfl (w.heap.size + 1) w7.heap.size _ xs rfl hrow7 (some ⟨w5.heap.size, 0, none⟩) (VecM.be 16 (l.length * 8)) 16 (by rw [VecM.be_length]; rfl) HV7.out hlen7 hB7' ?_))
      intro v8 w8 hr8 hb8
      have hb8' := HBR.out.trans hb8
      obtain ⟨P, hP⟩ : ∃ P, pad l l.length = P := ⟨_, rfl⟩
      have hPe : xs ++ VecM.be 16 (l.length * 8) = P := by rw [← hP, ← HXS2.out]; rfl
      rw [hPe] at hr8
      have hP64 : P.length % 128 = 0 := by rw [← hP, pad, List.length_append, List.length_append, List.length_append, List.length_replicate, VecM.be_length, List.length_singleton, zeros]; omega
      have hPl : P.length ≤ 140737488351500 := by rw [← hPe, List.length_append, VecM.be_length, HX.out]; omega
      have HP := Lib.hid hP
      have HP64 := Lib.hid hP64
      have HPl := Lib.hid hPl
      clear hP hPe hP64 hPl HXS2 HBR HV7 hrow7 hb8 HBE hB7 hB7' hlen7 HX hNb
      obtain ⟨A8, c8, rfl, hV8, hc8⟩ := hr8.form2
      have hP0 : 0 < P.length := by rw [← HP.out, pad, List.length_append, VecM.be_length]; omega
      obtain ⟨g8, rfl, -, hg8, -, -, -⟩ := hr8.place hP0
      have hs8 := hb8'.size
      have HA1 := Lib.hid (Ha1.out.below hb8' (by omega))
      have HT8 := Lib.hid (HT1.out.below (hb8'.mono (by rw [Hs.out]; exact Nat.le_refl _)))
      have HG8 := Lib.hid (HG1.out.below (hb8'.mono (by rw [Hs.out]; exact Nat.le_refl _)))
      have HBW8 := Lib.hid (Hbw.out.trans (hb8'.mono (by omega)))
      have HS8 := Lib.hid (show w.heap.size + 1 ≤ w8.heap.size by have := Hs.out; omega)
      have HV8 := Lib.hid hV8
      clear hb8' hs8 Ha1 HT1 HG1 Hbw Hs hV8 hr8
      have hr0 := LRow.empty w8.heap.size w8 (Nat.le_refl _)
      have hbE : Below w8.heap.size w8 (w8.alloc (.cells #[] 40)) := (Below.refl _ _).alloc (Nat.le_refl _) _
      have hSE := HG8.out.ls.below hbE
      go_wp2_with (at_builtin; go_must (refine lappN rfl (.tmp 33) (.tmp 34) rfl w8.heap.size w8.heap.size _ [] rfl hr0 ⟨0, 0, none⟩ IV 8 8 rfl rfl hSE (by decide) (by simp) ?_))
      intro v9 w9 hr9 hb9
      have HB9 := Lib.hid (hbE.trans hb9)
      have HR9 : Hid (LRow w8.heap.size w9 v9 IV) := Lib.hid hr9
      clear hr0 hbE hSE hr9 hb9
      go_wp2
      go_loopw [5, 6] (fun vs vk wr2 => ∃ (i : Nat) (S : List Nat), 128 * i ≤ P.length ∧ vk = .int .i64 ((128 * i : Nat) : Int) ∧ LRow w8.heap.size wr2 vs S ∧ S.length = 8 ∧ (∀ x ∈ S, x < 18446744073709551616) ∧ run S (P.drop (128 * i)) = run IV P ∧ Below w8.heap.size w8 wr2) (fun _ vk _ => P.length - (intOf vk).toNat)
      case atStart => exact ⟨0, IV, by omega, rfl, HR9.out, rfl, IV_lt, by rw [Nat.mul_zero, List.drop_zero], HB9.out⟩
      case round =>
        clear HR9 HB9
        obtain ⟨i, S, hi, rfl, hrs, hSl, hSs, hrun, hb⟩ := hrel
        obtain ⟨A5, c5, rfl, hls, hc5⟩ := hrs.form
        rw [hSl] at hc5 ⊢
        have HRun := Lib.hid hrun
        clear hrun
        obtain ⟨u, hu⟩ : ∃ u, 128 * i = u := ⟨_, rfl⟩
        rw [hu] at hi HRun ⊢
        have Hu := Lib.hid hu
        by_cases hlt : u < P.length
        · have g1 : u + 128 ≤ P.length := by have := HP64.out; omega
          clear hu
          have g2 : u + 128 ≤ c8 := by omega
          have g3 : u + 128 - u = 128 := by omega
          have hPl := HPl.out
          have h128 : ((P.drop u).take 128).length = 128 := by rw [List.length_take, List.length_drop]; omega
          have hbd := (((HV8.out.below hb).more hb.size).drop u).take 128
          have ead : (⟨g8, 0, none⟩ : Addr).add u = ⟨g8, u, none⟩ := by by_cases h0 : u = 0 <;> simp [Addr.add, h0]
          rw [Option.map_some, ead] at hbd
          have HBk := Lib.hid (eblock_any A5 c5 S (some ⟨g8, u, none⟩) _ (c8 - u) wr hls hSl hSs hbd h128 (by omega) (HT8.out.below hb))
          have HSt := Lib.hid (run_step S P u g1)
          have HB := Lib.hid hb
          have HSl := Lib.hid hSl
          clear hbd h128 ead hls hSl hSs hrs hb
          go_wp2_with fail
          refine HBk.out.mono ?_
          clear HBk
          rintro e w10 ⟨v10, rfl, hr10, hb10⟩
          obtain ⟨A10, c10, rfl, -, -⟩ := hr10.form
          have HR10 := Lib.hid (hr10.mono HB.out.size)
          have HB10 := Lib.hid (HB.out.trans (hb10.mono HB.out.size))
          clear hr10 hb10
          go_wp2
          go_roundw
          case rel => exact ⟨i + 1, _, by have := Hu.out; omega, by have := Hu.out; go_num, HR10.out, block_length _ _ HSl.out, block_lt _ _, by rw [show 128 * (i + 1) = u + 128 by have := Hu.out; omega, ← HSt.out]; exact HRun.out, HB10.out⟩
          case measure => simp [intOf]; omega
        · have hu2 : u = P.length := by omega
          have hS : S = run IV P := by
            have := HRun.out
            rw [hu2, run_end] at this
            exact this
          have HS := Lib.hid hS
          have HLs := Lib.hid hls
          have HB := Lib.hid hb
          have HSl := Lib.hid hSl
          have HSs := Lib.hid hSs
          clear hu hu2 hS hls hb hrs hSl hSs
          go_upto_region 12 with (fail)
          generalize hWd : World.alloc _ _ = wd
          obtain ⟨ad, hbd, hszd⟩ := start1 hWd
          clear hWd
          obtain ⟨g10, hg10⟩ : ∃ g, wr.heap.size = g := ⟨_, rfl⟩
          rw [hg10] at ad hbd hszd ⊢
          have hg1 : w.heap.size + 1 ≤ g10 := by have := HS8.out; have := HB.out.size; omega
          have HAL := Lib.hid ((HA1.out.below HB.out (by have := HS8.out; omega)).below hbd (by omega))
          have HBD := Lib.hid hbd
          have ad' : Arr wd g10 24 (Lib.byteCells (List.replicate 64 0)) := ad
          have HAD := Lib.hid ad'
          have HLd := Lib.hid (show Ls wd g10 A5 S from by have := HLs.out; rw [hg10] at this; exact this.below hbd)
          clear ad ad' hbd
          go_wp2
          go_loopw [8, 49] (fun _ vk w3 => ∃ (k : Nat) (D : List UInt8), k ≤ 64 ∧ vk = .int .i64 (k : Int) ∧ Arr w3 g10 24 (Lib.byteCells D) ∧ D.length = 64 ∧ (∀ p, p < k → D.getD p 0 = db S p) ∧ wd.grownBy w3 (some g10)) (fun _ vk _ => 64 - (intOf vk).toNat)
          case atStart => exact ⟨0, _, by omega, rfl, HAD.out, rfl, fun p h => by omega, ⟨rfl, rfl, rfl, Nat.le_refl _, fun _ _ _ => rfl⟩⟩
          case round =>
            clear HAD
            obtain ⟨k, D, hk, rfl, ad, hDl, hD, hgd⟩ := hrel
            have HD := Lib.hid hD
            have HDl := Lib.hid hDl
            clear hD
            by_cases hk64 : k < 64
            · have ct : decide ((k : Int) < 64) = true := decide_eq_true (by omega)
              have hq : k / 8 < S.length := by rw [HSl.out]; omega
              obtain ⟨ad5, rfl, _, cs⟩ := (HLd.out.below (below_of_grown hgd (Nat.le_refl _) (by omega))).at_ hq
              obtain ⟨old, cd⟩ : ∃ o, wr.cell? ⟨g10, k, none⟩ = some o := ⟨_, ad.cell' k (by rw [Lib.byteCells, List.length_map]; omega)⟩
              have fd := ad.frozen k
              obtain ⟨sh, hsh⟩ : ∃ sh, 56 - k % 8 * 8 = sh := ⟨_, rfl⟩
              obtain ⟨q, hqe⟩ : ∃ q, k / 8 = q := ⟨_, rfl⟩
              have hq8 : q < 8 := by omega
              have HC := Lib.hid (show S.getD (k / 8) 0 = S[k / 8] by simp [List.getD_eq_getElem?_getD, List.getElem?_eq_getElem hq])
              have hys := HSs.out _ (List.getElem_mem hq)
              have Hsh := Lib.hid hsh
              generalize S[k / 8]'hq = y at *
              rw [hqe] at cs
              have e1 : (k : Int) / 8 = (q : Int) := by omega
              have e2 : (56 : Int) - (k : Int) % 8 * 8 = (sh : Int) := by omega
              have AD := Lib.hid ad
              have HGd := Lib.hid hgd
              clear hsh hqe hq ad hgd hDl
              go_wp2
              go_roundw
              case rel =>
                have hx : (y : Int) / 2 ^ sh % 256 = ((db S k).toNat : Int) := by
                  unfold db
                  rw [Hsh.out, HC.out, UInt8.toNat_ofNat']
                  push_cast
                  rfl
                have ad2 := AD.out.set k (.int .u8 ((y : Int) / 2 ^ sh % 256))
                rw [hx, bc_set] at ad2
                rw [hx]
                refine ⟨k + 1, D.set k (db S k), by omega, by go_num, ad2, by rw [List.length_set]; exact HDl.out, ?_, grown_trans HGd.out (grown_set _ _ _ _)⟩
                intro p hp
                by_cases h : p = k
                · subst h
                  rw [List.getD_eq_getElem?_getD, List.getElem?_set_self (by have := HDl.out; omega)]
                  rfl
                · rw [getD_set_at_ne _ _ _ _ h]
                  exact HD.out p (by omega)
              case measure => simp [intOf]; omega
            · obtain rfl : k = 64 := by omega
              have ct : decide (((64 : Nat) : Int) < 64) = false := rfl
              have u64 : Tryd.prog.underlying 24 = some (.array 64 5) := by kernel_rfl
              have i64 : (Tryd.prog.info? 24).map (·.size) = some 64 := by kernel_rfl
              have U := Lib.hid u64
              have I := Lib.hid i64
              have AD := Lib.hid ad
              have N1 := Lib.hid (show (Lib.byteCells D).length = 64 by rw [Lib.byteCells, List.length_map]; exact hDl)
              have AO := Lib.hid (arr_grown HAL.out hgd (by omega))
              have hDd := digest_of S HSl.out D hDl HD.out
              have HDd := Lib.hid hDd
              have hbF : Below w.heap.size w (wr.setRow w.heap.size (Lib.byteCells D).toArray) :=
                below_row (HBW8.out.trans ((HB.out.mono (by have := HS8.out; omega)).trans ((HBD.out.mono (by omega)).trans (below_of_grown hgd (by omega) (by omega))))) (Nat.le_refl _) _
              have AF := Lib.hid (AO.out.row (Lib.byteCells D))
              have HBF := Lib.hid hbF
              clear u64 i64 ad hgd hbF hDd
              go_wp2_with (first | (refine Arr.loadL AD.out rfl 24 (.tmp 7) rfl rfl U.out rfl I.out N1.out ?_) | (refine Arr.storeL AO.out rfl 24 (.tmp 2) (.tmp 66) rfl rfl (Lib.byteCells D) rfl I.out (by simp [Lib.byteCells]) N1.out (bytes_one D) ?_))
              refine bodyPost_ret (v := .agg (Lib.byteCells D).toArray) (by exact AF.out.ret rfl _ rfl U.out rfl I.out N1.out) rfl ⟨?_, HBF.out⟩
              rw [HDd.out, HS.out]
              unfold WideM.sum hend
              rw [HP.out]
end Go.Proofs.YtmmmogccjopfeaaDoor.WideEndW
