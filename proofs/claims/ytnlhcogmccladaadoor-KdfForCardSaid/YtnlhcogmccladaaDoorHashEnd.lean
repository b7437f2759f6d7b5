/-
  ticketwardref.DEnd: what it hands back. Conditions: in the statement.
-/
import Derived.Test.YtnlhcogmccladaaDoorHashBlock
import Derived.Test.YtnlhcogmccladaaDoorKe
import Derived.Test.YtnlhcogmccladaaDoorHashX
namespace Go.Proofs.YtnlhcogmccladaaDoor.HashEndW
open Go.RowKit BytesW CellsW WordsW ArrW HashM HashBlockW BigW BigNewW BigMulW BigFillW

/-- The length of a slice's value. -/
def sliceLen : Value → Nat
  | .slice _ n _ => n
  | _ => 0

theorem start {w W : World} {X Y : Array Value} {t u : TypeId} (h : (w.alloc (.cells X t)).alloc (.cells Y u) = W) : Arr W w.heap.size t X.toList ∧ Arr W (w.heap.size + 1) u Y.toList ∧ Below w.heap.size w W ∧ W.heap.size = w.heap.size + 2 := by
  subst h
  have a1 := Arr.new (w.alloc (.cells X t)) Y u
  have hsz : (w.alloc (.cells X t)).heap.size = w.heap.size + 1 := by simp
  rw [hsz] at a1
  exact ⟨(Arr.new w X t).alloc _, a1, ((Below.refl w.heap.size w).alloc (Nat.le_refl _) _).alloc (by simp) _, by simp⟩

theorem start1 {w W : World} {X : Array Value} {t : TypeId} (h : w.alloc (.cells X t) = W) : Arr W w.heap.size t X.toList ∧ Below w.heap.size w W := by
  subst h
  exact ⟨Arr.new w X t, (Below.refl w.heap.size w).alloc (Nat.le_refl _) _⟩
/-- Byte p of a digest. -/
def db (S : List Nat) (p : Nat) : UInt8 := UInt8.ofNat (S.getD (p / 4) 0 / 2 ^ (24 - p % 4 * 8))
theorem bc_set (L : List UInt8) (k : Nat) (x : UInt8) : (Lib.byteCells L).set k (.int .u8 (x.toNat : Int)) = Lib.byteCells (L.set k x) := by simp [Lib.byteCells, List.map_set]
theorem arr_grown {w w' : World} {g r : Nat} {t : TypeId} {xs : List Value} (h : Arr w g t xs) (hg : w.grownBy w' (some r)) (hne : g ≠ r) : Arr w' g t xs :=
  (hg.block g h.lt (fun e => hne (by cases e; rfl))).trans h
theorem bs_grown {w w' : World} {r : Nat} {ad : Addr} {l : List UInt8} (h : Bs w w.heap.size (some ad) l) (hg : w.grownBy w' (some r)) (hne : ad.block ≠ r) : Bs w' w'.heap.size (some ad) l := by
  intro h0
  obtain ⟨ad', e, hlt, hc⟩ := h h0
  cases e
  exact ⟨ad, rfl, Nat.lt_of_lt_of_le hlt hg.size, fun k hk => hg.cell (hc k hk) (by rw [add_block]; intro e; cases e; exact hne rfl)⟩
theorem tab_grown {w w' : World} {r : Nat} (h : TabK w) (hg : w.grownBy w' (some r)) (hr : 1 ≠ r) : TabK w' := fun j hj => hg.cell (h j hj) (fun e => hr (by cases e; rfl))

theorem block_length (s : List Nat) (b : List UInt8) (h : s.length = 8) : (block s b).length = 8 := by simp [block, St.toList, h]
theorem block_lt (s : List Nat) (b : List UInt8) : ∀ x ∈ block s b, x < 4294967296 := by
  intro x hx
  unfold block at hx
  obtain ⟨k, hk, rfl⟩ := List.mem_iff_getElem.1 hx
  rw [List.getElem_zipWith]
  omega
theorem small_of (r0 r1 r2 r3 r4 r5 r6 r7 : Nat) (h : ∀ x ∈ [r0, r1, r2, r3, r4, r5, r6, r7], x < 4294967296) : (⟨r0, r1, r2, r3, r4, r5, r6, r7⟩ : St).small :=
  ⟨h _ (by simp), h _ (by simp), h _ (by simp), h _ (by simp), h _ (by simp), h _ (by simp), h _ (by simp), h _ (by simp)⟩
theorem run_step (S : List Nat) (P : List UInt8) (k : Nat) (h : k + 64 ≤ P.length) : run S (P.drop k) = run (block S ((P.drop k).take 64)) (P.drop (k + 64)) := by
  rw [run, dif_pos (by rw [List.length_drop]; omega), List.drop_drop]
theorem run_end (S : List Nat) (P : List UInt8) : run S (P.drop P.length) = S := by
  rw [run, dif_neg (by rw [List.length_drop]; omega)]

set_option maxHeartbeats 4000000 in
set_option maxRecDepth 100000 in
theorem dend_any (s0 s1 s2 s3 s4 s5 s6 s7 : Nat) (A : Option Addr) (l : List UInt8) (c long : Nat) (w : World) (hA : Bs w w.heap.size A l) (hT : TabK w)
    (hs : (⟨s0, s1, s2, s3, s4, s5, s6, s7⟩ : St).small) (hl : l.length ≤ 140737488354000) (hlong : long < 9223372036854775808) :
    Calls Tryd.prog 39 #[.agg #[.int .u32 (s0 : Int), .int .u32 (s1 : Int), .int .u32 (s2 : Int), .int .u32 (s3 : Int), .int .u32 (s4 : Int), .int .u32 (s5 : Int), .int .u32 (s6 : Int), .int .u32 (s7 : Int)], .slice A l.length c, .int .i64 (long : Int)] w
      fun e w' => e = .returned (.agg (Lib.byteCells (hend [s0, s1, s2, s3, s4, s5, s6, s7] l long)).toArray) ∧ Below w.heap.size w w' := by
  have ht0 : 1 < w.heap.size := World.block_lt_of_cell? _ _ (hT 0 (by decide))
  have HT := Lib.hid hT
  have HSm := Lib.hid hs
  have HA := Lib.hid hA
  clear hT hs hA
  go_enter Tryd.func39, Tryd.ntmps39
  go_upto_region 1 with (fail)
  generalize hW : World.alloc _ _ = W
  obtain ⟨H0, H1, hbw, hsz⟩ := start hW
  clear hW
  have a0 : Arr W w.heap.size 59 (wc [s0, s1, s2, s3, s4, s5, s6, s7]) := H0
  have a1 : Arr W (w.heap.size + 1) 27 (Lib.byteCells (List.replicate 32 0)) := H1
  have HA1 := Lib.hid ((HA.out.below hbw).below (((Below.refl w.heap.size W).alloc (by omega) (.cells #[] 5))))
  have hr0 := Row.empty (w.heap.size + 2) W (by omega)
  have hlen : ([] : List UInt8).length + l.length ≤ 140737488355328 := by simp; omega
  have hB1 : w.heap.size + 2 ≤ (W.alloc (.cells #[] 5)).heap.size := by simp; omega
  have Hs := Lib.hid hsz
  have Ha0 := Lib.hid a0
  have Ha1 := Lib.hid a1
  have HT1 := Lib.hid (HT.out.below hbw)
  have Hbw := Lib.hid hbw
  clear a0 a1 H0 H1 HT hbw hsz
  have hbE : Below (w.heap.size + 2) W (W.alloc (.cells #[] 5)) := (Below.refl _ W).alloc (by rw [Hs.out]; exact Nat.le_refl _) _
  go_wp2_with (at_builtin; go_must (refine appN rfl (.tmp 12) (.tmp 13) rfl (w.heap.size + 2) w.heap.size _ [] rfl hr0 A l c rfl HA1.out hlen hB1 ?_))
  intro v1 w1 hr1 hb1
  clear hr0 HA1
  have hb2 := hbE.trans hb1
  have hnew := new1 w1 128 128 rfl
  have hB2 := hb2.size
  have hlen2 : l.length + 1 ≤ 140737488355328 := by omega
  go_wp2_with (at_builtin; go_must (refine app1 rfl (.tmp 14) (.tmp 15) rfl (w.heap.size + 2) _ l rfl (hr1.alloc _) ⟨w1.heap.size, 0, none⟩ 1 128 rfl hnew hlen2 (by rw [Hs.out] at hB2; simp; omega) ?_))
  intro v2 w2 hr2 hb3
  clear hr1 hnew hlen hlen2
  have hb4 := (hb2.alloc (by rw [Hs.out] at hB2; exact hB2) _).trans hb3
  have HB4 := Lib.hid hb4
  clear hb1 hb2 hb3 hbE hB1 hB2 hb4
  go_wp2
  go_loopw [7] (fun v wr => ∃ z : Nat, z ≤ zeros l.length ∧ Row (w.heap.size + 2) wr v (l ++ [128] ++ List.replicate z 0) ∧ Below (w.heap.size + 2) W wr) (fun v _ => (64 - (sliceLen v + 8) % 64) % 64)
  case atStart => exact ⟨0, Nat.zero_le _, by simpa using hr2, HB4.out⟩
  case round =>
    clear hr2 HB4
    obtain ⟨z, hz, hrow, hb⟩ := hrel
    obtain ⟨A3, c3, rfl, hV, hcap⟩ := hrow.form2
    have hN : (l ++ [128] ++ List.replicate z 0).length = l.length + 1 + z := by simp only [List.length_append, List.length_replicate, List.length_singleton]
    have hB := hb.size
    have hz6 : zeros l.length = (64 - (l.length + 9) % 64) % 64 := rfl
    have hsnoc : (l ++ [128] ++ List.replicate z 0) ++ [0] = l ++ [128] ++ List.replicate (z + 1) 0 := by
      rw [List.replicate_succ', ← List.append_assoc]
    generalize hxs : l ++ [128] ++ List.replicate z 0 = xs at *
    generalize hxl : xs.length = N at *
    have HX := Lib.hid hxl; clear hxl
    have hNb : N ≤ 140737488354200 := by omega
    have HN := Lib.hid hN
    have hlt6' : z < zeros l.length → (decide ((0 : Int) < ((N : Int) + 8) % 64)) = true := fun h => by rw [decide_eq_true_eq]; omega
    have hge6' : ¬ z < zeros l.length → (decide ((0 : Int) < ((N : Int) + 8) % 64)) = false := fun h => by rw [decide_eq_false_iff_not]; omega
    have HL := Lib.hid hlt6'
    have HG := Lib.hid hge6'
    have HZ := Lib.hid hz6
    have HXS := Lib.hid hxs
    clear hN hz6 hlt6' hge6' hxs
    by_cases hlt6 : z < zeros l.length
    · have ht := HL.out hlt6
      have HS := Lib.hid hsnoc
      clear hsnoc HL HG
      have hnew := new1 wr 0 0 rfl
      go_wp2_with (at_builtin; go_must (refine app1 rfl (.tmp 22) (.tmp 23) rfl (w.heap.size + 2) _ xs rfl (hrow.alloc _) ⟨wr.heap.size, 0, none⟩ 1 0 rfl hnew (by rw [HX.out]; omega) (by rw [Hs.out] at hB; simp; omega) ?_))
      intro v' w' hrow' hb'
      clear hnew
      go_wp2
      obtain ⟨A', c', rfl, _, _⟩ := hrow'.form2
      go_roundw
      case rel => exact ⟨z + 1, by omega, by rw [← HS.out]; exact hrow', (hb.alloc (by rw [Hs.out] at hB; exact hB) _).trans hb'⟩
      case measure =>
        rw [decide_eq_true_eq] at ht
        simp only [sliceLen, List.length_append, List.length_singleton, HX.out]
        omega
    · have ht := HG.out hlt6
      clear HL HG
      have hzz : z = zeros l.length := by omega
      have HXS2 : Hid (l ++ [128] ++ List.replicate (zeros l.length) 0 = xs) := Lib.hid (by rw [← hzz]; exact HXS.out)
      clear hsnoc hlt6 hz hzz HXS HZ HN
      obtain ⟨wz, hwz⟩ : ∃ wz, wr.alloc zeroObj = wz := ⟨_, rfl⟩
      have hz0 := zero_arr wr
      rw [hwz] at hz0
      have hszz : wz.heap.size = wr.heap.size + 1 := by rw [← hwz]; simp
      have hbz : Below wr.heap.size wr wz := by rw [← hwz]; exact (Below.refl _ _).alloc (Nat.le_refl _) _
      have hn1 := newint_any long (long : Int) rfl wz hlong
      have HWZ := Lib.hid hwz
      have HSZ := Lib.hid hszz
      have HN1 := Lib.hid hn1
      have HZ0 := Lib.hid hz0
      have HBZ := Lib.hid hbz
      clear hwz hn1 hz0 hbz hszz
      go_wp2_with fail
      rw [show wr.alloc (.cells #[.bool false, .slice none 0 0] 80) = wz from HWZ.out]
      refine HN1.out.mono ?_
      clear HN1
      rintro e w3 ⟨rfl, hi1, hb3⟩
      have HN2 := Lib.hid (newint_any 8 8 rfl w3 (by omega))
      have HI1 := Lib.hid hi1
      have HB3 := Lib.hid hb3
      clear hi1 hb3 ht
      go_wp2_with fail
      refine HN2.out.mono ?_
      clear HN2
      rintro e w4 ⟨rfl, hi2, hb4⟩
      have hi1 := int_below HI1.out hb4
      have hg3 := intAt_lt HI1.out
      have hz4 := (HZ0.out.below HB3.out (by rw [HSZ.out]; omega)).below hb4 (by have := HSZ.out; omega)
      have hbr4 : Below wr.heap.size wr w4 := HBZ.out.trans ((HB3.out.mono (by rw [HSZ.out]; omega)).trans (hb4.mono (by have := HSZ.out; omega)))
      have hm := mul_any wr.heap.size wz.heap.size w3.heap.size false none 0 0 (long : Int) 8 w4 hz4 ⟨false, dg long, hi1, by simp [sgn, dval_dg], by simp⟩ ⟨false, dg 8, hi2, by simp [sgn, dval_dg], by simp⟩
        (fun _ d h => by have h1 := int_len h hi1; have h2 := dg_length long; omega) (fun _ d h => by have h1 := int_len h hi2; have h2 := dg_length 8; omega)
      have HM := Lib.hid hm
      have HB4 := Lib.hid hbr4
      clear hm hz4 hi1 hi2 hg3 hbr4 HI1 HZ0 HB3 HBZ HWZ hb4
      go_wp2_with fail
      refine HM.out.mono ?_
      clear HM
      rintro e w5 ⟨rfl, hV5, hg5⟩
      have HB5 := Lib.hid (HB4.out.trans (below_of_grown hg5 (Nat.le_refl _) HB4.out.size))
      obtain ⟨neg, d, ⟨⟨A5, c5, a5, u5, _⟩, sm5, ht5⟩, hz5, _⟩ := hV5
      have hdv : dval d = long * 8 := sgn_nat (by push_cast; exact hz5)
      have hdl : d.length ≤ 3 := tidy_len ht5 (by rw [hdv]; simp only [Nat.reducePow]; omega)
      have hbe := be_dval d sm5 8
      rw [hdv] at hbe
      have hmk : (Instr.makeSlice 22 (.int .i64 8) (.int .i64 8)).run Tryd.prog w5 = .ok (.slice (some ⟨w5.heap.size, 0, none⟩) 8 8) (w5.alloc (.cells (madeCells #[.int .u8 0] 8) 5)) := makeN 8 (by omega) w5
      have hr6 := Row.madeN w5.heap.size 8 w5 (Nat.le_refl _) (by decide)
      have hb6 : Below w5.heap.size w5 (w5.alloc (.cells (madeCells #[.int .u8 0] 8) 5)) := (Below.refl _ _).alloc (Nat.le_refl _) _
      have a6 := a5.alloc (.cells (madeCells #[.int .u8 0] 8) 5)
      have u6 := u5.below hb6
      generalize w5.alloc (.cells (madeCells #[.int .u8 0] 8) 5) = w6 at *
      have hf := fill_any w5.heap.size w5.heap.size wr.heap.size 8 8 c5 neg A5 d _ w6 a6 u6 a5.lt sm5 hr6 (by simp) (by decide) (by omega)
      have HF := Lib.hid hf
      have HBE := Lib.hid hbe
      have HB6 := Lib.hid hb6
      clear hf hbe hb6 a5 a6 u5 u6 hr6 hz5 hdv ht5 sm5 hdl hg5 HB4 HSZ
      go_wp2_with fail
      refine HF.out.mono ?_
      clear HF hmk
      rintro e w7 ⟨rfl, hr7, hb7⟩
      have hbr7 := HB5.out.trans ((HB6.out.mono HB5.out.size).trans (hb7.mono HB5.out.size))
      obtain ⟨A7, c7, e7, hV7, hc7⟩ := hr7.form2
      obtain rfl : A7 = some ⟨w5.heap.size, 0, none⟩ := by injection e7 with h _ _; exact h.symm
      rw [HBE.out] at hV7
      have hrow7 := hrow.below hbr7
      have hB7 := hbr7.size
      have hB7' : w.heap.size + 2 ≤ w7.heap.size := by have := Hs.out; omega
      have hlen7 : xs.length + (VecM.be 8 (long * 8)).length ≤ 140737488355328 := by rw [VecM.be_length, HX.out]; omega
      have HV7 := Lib.hid hV7
      have HBR := Lib.hid (hb.trans (hbr7.mono (by have := Hs.out; omega)))
      clear e7 hc7 hr7 hb7 hV7 hbr7 HB5 HB6 hrow hV hB hb hcap
      go_wp2_with (at_builtin; go_must (refine appN rfl (.tmp 30) (.tmp 33) rfl (w.heap.size + 2) w7.heap.size _ xs rfl hrow7 (some ⟨w5.heap.size, 0, none⟩) (VecM.be 8 (long * 8)) 8 (by rw [VecM.be_length]; rfl) HV7.out hlen7 hB7' ?_))
      intro v8 w8 hr8 hb8
      have hb8' := HBR.out.trans hb8
      obtain ⟨P, hP⟩ : ∃ P, pad l long = P := ⟨_, rfl⟩
      have hPe : xs ++ VecM.be 8 (long * 8) = P := by rw [← hP, ← HXS2.out]; rfl
      rw [hPe] at hr8
      have hP64 : P.length % 64 = 0 := by rw [← hP, pad, List.length_append, List.length_append, List.length_append, List.length_replicate, VecM.be_length, List.length_singleton, zeros]; omega
      have hPl : P.length ≤ 140737488354300 := by rw [← hPe, List.length_append, VecM.be_length, HX.out]; omega
      have HP := Lib.hid hP
      have HP64 := Lib.hid hP64
      have HPl := Lib.hid hPl
      clear hP hPe hP64 hPl HXS2 HBR HV7 hrow7 hb8 HBE hB7 hB7' hlen7 HX hNb
      obtain ⟨A8, c8, rfl, hV8, hc8⟩ := hr8.form2
      have hP0 : 0 < P.length := by rw [← HP.out, pad, List.length_append, VecM.be_length]; omega
      obtain ⟨g8, rfl, -, hg8, -, -, -⟩ := hr8.place hP0
      have hs8 := hb8'.size
      have a0 := Ha0.out.below hb8' (by omega)
      have a1 := Ha1.out.below hb8' (by omega)
      have hT8 := HT1.out.below (hb8'.mono (by rw [Hs.out]; exact Nat.le_refl _))
      have hbw8 := Hbw.out.trans (hb8'.mono (by omega))
      have HA0 := Lib.hid a0
      have HA1 := Lib.hid a1
      have HT8 := Lib.hid hT8
      have HBW8 := Lib.hid hbw8
      have HS8 := Lib.hid (show w.heap.size + 2 ≤ w8.heap.size by have := Hs.out; omega)
      have HV8 := Lib.hid hV8
      clear a0 a1 hT8 hb8' hbw8 hs8 Ha0 Ha1 HT1 Hbw Hs hV8 hr8
      go_wp2
      go_loopw [9] (fun vk wr2 => ∃ (i : Nat) (S : List Nat), 64 * i ≤ P.length ∧ vk = .int .i64 ((64 * i : Nat) : Int) ∧ Arr wr2 w.heap.size 59 (wc S) ∧ S.length = 8 ∧ (∀ x ∈ S, x < 4294967296) ∧ run S (P.drop (64 * i)) = run [s0, s1, s2, s3, s4, s5, s6, s7] P ∧ w8.grownBy wr2 (some w.heap.size)) (fun vk _ => P.length - (intOf vk).toNat)
      case atStart =>
        refine ⟨0, _, by omega, rfl, HA0.out, rfl, ?_, by rw [Nat.mul_zero, List.drop_zero], ⟨rfl, rfl, rfl, Nat.le_refl _, fun _ _ _ => rfl⟩⟩
        have := HSm.out
        unfold St.small at this
        simpa using this
      case round =>
        clear HA0
        obtain ⟨i, S, hi, rfl, a0, hSl, hSs, hrun, hg⟩ := hrel
        have HRun := Lib.hid hrun
        clear hrun
        obtain ⟨u, hu⟩ : ∃ u, 64 * i = u := ⟨_, rfl⟩
        rw [hu] at hi HRun ⊢
        have Hu := Lib.hid hu
        by_cases hlt : u < P.length
        · have g1 : u + 64 ≤ P.length := by have := HP64.out; omega
          clear hu
          have esum : IntKind.i64.wrap ((u : Int) + 64) = ((u + 64 : Nat) : Int) := by rw [IntWalk.i64_in _ (by have := HPl.out; omega)]; omega
          have g2 : u + 64 ≤ c8 := by omega
          have g3 : u + 64 - u = 64 := by omega
          obtain ⟨r0, r1, r2, r3, r4, r5, r6, r7, rfl⟩ := eight hSl
          have hbd := ((bs_grown HV8.out hg (by show g8 ≠ _; omega)).drop (u)).take 64
          have hT := tab_grown HT8.out hg (by omega)
          have hPl := HPl.out
          go_upto_region 9 with (fail)
          have c0 : wr.cell? ⟨w.heap.size, 0, none⟩ = some (.int .u32 (r0 : Int)) := a0.cell 0
          have c1 : wr.cell? ⟨w.heap.size, 1, none⟩ = some (.int .u32 (r1 : Int)) := a0.cell 1
          have c2 : wr.cell? ⟨w.heap.size, 2, none⟩ = some (.int .u32 (r2 : Int)) := a0.cell 2
          have c3' : wr.cell? ⟨w.heap.size, 3, none⟩ = some (.int .u32 (r3 : Int)) := a0.cell 3
          have c4 : wr.cell? ⟨w.heap.size, 4, none⟩ = some (.int .u32 (r4 : Int)) := a0.cell 4
          have c5' : wr.cell? ⟨w.heap.size, 5, none⟩ = some (.int .u32 (r5 : Int)) := a0.cell 5
          have c6 : wr.cell? ⟨w.heap.size, 6, none⟩ = some (.int .u32 (r6 : Int)) := a0.cell 6
          have c7' : wr.cell? ⟨w.heap.size, 7, none⟩ = some (.int .u32 (r7 : Int)) := a0.cell 7
          have h64 : ((P.drop (u)).take 64).length = 64 := by rw [List.length_take, List.length_drop]; omega
          have ead : (⟨g8, 0, none⟩ : Addr).add u = ⟨g8, u, none⟩ := by by_cases h0 : u = 0 <;> simp [Addr.add, h0]
          rw [Option.map_some, ead] at hbd
          have hblk := block_any r0 r1 r2 r3 r4 r5 r6 r7 (some ⟨g8, u, none⟩) _ (c8 - u) wr.drew hbd h64 (by rw [h64]; omega) hT (small_of _ _ _ _ _ _ _ _ hSs)
          rw [h64] at hblk
          obtain ⟨q0, q1, q2, q3, q4, q5, q6, q7, hq⟩ := eight (block_length [r0, r1, r2, r3, r4, r5, r6, r7] ((P.drop u).take 64) rfl)
          have HSt := Lib.hid (run_step [r0, r1, r2, r3, r4, r5, r6, r7] P u g1)
          have HBs := Lib.hid (block_lt [r0, r1, r2, r3, r4, r5, r6, r7] ((P.drop u).take 64))
          rw [hq] at hblk HSt HBs
          rw [show (wc [q0, q1, q2, q3, q4, q5, q6, q7]).toArray = #[.int .u32 (q0 : Int), .int .u32 (q1 : Int), .int .u32 (q2 : Int), .int .u32 (q3 : Int), .int .u32 (q4 : Int), .int .u32 (q5 : Int), .int .u32 (q6 : Int), .int .u32 (q7 : Int)] from rfl] at hblk
          have HBlk := Lib.hid hblk
          clear hblk hbd hT h64 hq ead
          refine Phase.wp_region_phases [([], [0, 1, 2, 3, 4, 5], some 6), ([], [], some 7)] (fun W => W = wr.drew) (by kernel_rfl) (by kernel_rfl) (fun _ _ d _ _ h => by cases d <;> exact h) rfl ?_
          refine Phase.g_alone rfl (Phase.p_nil ?_)
          repeat (refine Phase.q_step rfl (fun K hK => ?_); go_simp; refine hK _ ?_; clear hK K)
          refine Phase.q_step rfl (fun K hK => ?_)
          go_simp
          have tn : ((u : Int) + 64).toNat = u + 64 := by omega
          rw [if_pos (show (0 : Int) ≤ (u : Int) + 64 ∧ (u : Int) + 64 ≤ (c8 : Int) by omega), if_pos (show u ≤ ((u : Int) + 64).toNat by omega), if_neg (show ¬ c8 = u by omega), tn, g3]
          refine ⟨_, ⟨rfl, rfl⟩, hK _ ?_⟩
          clear hK K tn
          refine Phase.q_nil ?_
          rintro _ rfl K hK
          go_simp
          refine HBlk.out.mono ?_
          clear HBlk
          rintro e w9 ⟨rfl, hb9⟩
          refine hK _ _ ⟨fun W => W = w9, rfl, ?_⟩
          clear hK K
          have a9 := a0.drew.below hb9 a0.lt
          have e0 : w9.cell? ⟨w.heap.size, 0, none⟩ = some (.int .u32 (r0 : Int)) := a9.cell 0
          have f0 := a9.frozen 0
          have g0' := grown_set w9 w.heap.size 0 (.int .u32 (q0 : Int))
          have a9' := a9.set 0 (.int .u32 (q0 : Int))
          obtain ⟨x0, hx0⟩ : ∃ x, w9.setCell ⟨w.heap.size, 0, none⟩ (.int .u32 (q0 : Int)) = x := ⟨_, rfl⟩
          rw [hx0] at a9' g0'
          have e1 : x0.cell? ⟨w.heap.size, 1, none⟩ = some (.int .u32 (r1 : Int)) := a9'.cell 1
          have f1 := a9'.frozen 1
          have g1' := grown_set x0 w.heap.size 1 (.int .u32 (q1 : Int))
          have a9'' := a9'.set 1 (.int .u32 (q1 : Int))
          obtain ⟨x1, hx1⟩ : ∃ x, x0.setCell ⟨w.heap.size, 1, none⟩ (.int .u32 (q1 : Int)) = x := ⟨_, rfl⟩
          rw [hx1] at a9'' g1'
          have e2 : x1.cell? ⟨w.heap.size, 2, none⟩ = some (.int .u32 (r2 : Int)) := a9''.cell 2
          have f2 := a9''.frozen 2
          have g2' := grown_set x1 w.heap.size 2 (.int .u32 (q2 : Int))
          have a9''' := a9''.set 2 (.int .u32 (q2 : Int))
          obtain ⟨x2, hx2⟩ : ∃ x, x1.setCell ⟨w.heap.size, 2, none⟩ (.int .u32 (q2 : Int)) = x := ⟨_, rfl⟩
          rw [hx2] at a9''' g2'
          have e3 : x2.cell? ⟨w.heap.size, 3, none⟩ = some (.int .u32 (r3 : Int)) := a9'''.cell 3
          have f3 := a9'''.frozen 3
          have g3' := grown_set x2 w.heap.size 3 (.int .u32 (q3 : Int))
          have a9'''' := a9'''.set 3 (.int .u32 (q3 : Int))
          obtain ⟨x3, hx3⟩ : ∃ x, x2.setCell ⟨w.heap.size, 3, none⟩ (.int .u32 (q3 : Int)) = x := ⟨_, rfl⟩
          rw [hx3] at a9'''' g3'
          have e4 : x3.cell? ⟨w.heap.size, 4, none⟩ = some (.int .u32 (r4 : Int)) := a9''''.cell 4
          have f4 := a9''''.frozen 4
          have g4' := grown_set x3 w.heap.size 4 (.int .u32 (q4 : Int))
          have a9''''' := a9''''.set 4 (.int .u32 (q4 : Int))
          obtain ⟨x4, hx4⟩ : ∃ x, x3.setCell ⟨w.heap.size, 4, none⟩ (.int .u32 (q4 : Int)) = x := ⟨_, rfl⟩
          rw [hx4] at a9''''' g4'
          have e5 : x4.cell? ⟨w.heap.size, 5, none⟩ = some (.int .u32 (r5 : Int)) := a9'''''.cell 5
          have f5 := a9'''''.frozen 5
          have g5' := grown_set x4 w.heap.size 5 (.int .u32 (q5 : Int))
          have a9'''''' := a9'''''.set 5 (.int .u32 (q5 : Int))
          obtain ⟨x5, hx5⟩ : ∃ x, x4.setCell ⟨w.heap.size, 5, none⟩ (.int .u32 (q5 : Int)) = x := ⟨_, rfl⟩
          rw [hx5] at a9'''''' g5'
          have e6 : x5.cell? ⟨w.heap.size, 6, none⟩ = some (.int .u32 (r6 : Int)) := a9''''''.cell 6
          have f6 := a9''''''.frozen 6
          have g6' := grown_set x5 w.heap.size 6 (.int .u32 (q6 : Int))
          have a9''''''' := a9''''''.set 6 (.int .u32 (q6 : Int))
          obtain ⟨x6, hx6⟩ : ∃ x, x5.setCell ⟨w.heap.size, 6, none⟩ (.int .u32 (q6 : Int)) = x := ⟨_, rfl⟩
          rw [hx6] at a9''''''' g6'
          have e7 : x6.cell? ⟨w.heap.size, 7, none⟩ = some (.int .u32 (r7 : Int)) := a9'''''''.cell 7
          have f7 := a9'''''''.frozen 7
          have g7' := grown_set x6 w.heap.size 7 (.int .u32 (q7 : Int))
          have a9'''''''' := a9'''''''.set 7 (.int .u32 (q7 : Int))
          obtain ⟨x7, hx7⟩ : ∃ x, x6.setCell ⟨w.heap.size, 7, none⟩ (.int .u32 (q7 : Int)) = x := ⟨_, rfl⟩
          rw [hx7] at a9'''''''' g7'
          have aF : Arr x7 w.heap.size 59 (wc [q0, q1, q2, q3, q4, q5, q6, q7]) := a9''''''''
          have gF : w8.grownBy x7 (some w.heap.size) := grown_trans hg (grown_trans (show wr.grownBy wr.drew (some w.heap.size) from ⟨rfl, rfl, rfl, Nat.le_refl _, fun _ _ _ => rfl⟩) (grown_trans (grown_of_below hb9) (grown_trans g0' (grown_trans g1' (grown_trans g2' (grown_trans g3' (grown_trans g4' (grown_trans g5' (grown_trans g6' g7')))))))))
          have AF := Lib.hid aF
          have GF := Lib.hid gF
          clear a9'''''''' a9''''''' a9'''''' a9''''' a9'''' a9''' a9'' a9' a9 g0' g1' g2' g3' g4' g5' g6' g7' aF gF hg hb9 c0 c1 c2 c3' c4 c5' c6 c7' a0
          refine Phase.g_alone rfl (Phase.p_nil (Phase.q_nil ?_))
          rintro _ rfl K hK
          go_simp
          refine hK _ _ ⟨fun W => W = x7, rfl, ?_⟩
          clear hK K
          refine Phase.g_nil ?_
          rintro _ rfl
          go_wp2
          go_roundw
          case rel => exact ⟨i + 1, _, by have := Hu.out; omega, by have := Hu.out; go_num, AF.out, rfl, HBs.out, by rw [show 64 * (i + 1) = u + 64 by have := Hu.out; omega, ← HSt.out]; exact HRun.out, GF.out⟩
          case measure => simp [intOf]; omega
        · have hu2 : u = P.length := by omega
          have hS : S = run [s0, s1, s2, s3, s4, s5, s6, s7] P := by
            have := HRun.out
            rw [hu2, run_end] at this
            exact this
          have HS := Lib.hid hS
          obtain ⟨g10, hg10⟩ : ∃ g, wr.heap.size = g := ⟨_, rfl⟩
          have hgs := hg.size
          have hg1 : w.heap.size + 2 ≤ g10 := by have := HS8.out; omega
          have HG := Lib.hid hg
          clear hu hu2 hS hg hgs
          go_upto_region 11 with (fail)
          generalize hWd : World.alloc _ _ = wd
          obtain ⟨ad, hbd⟩ := start1 hWd
          clear hWd
          have al := a0.below hbd a0.lt
          rw [hg10] at ad hbd
          have HAL := Lib.hid al
          have HBD := Lib.hid hbd
          have ad' : Arr wd g10 27 (Lib.byteCells (List.replicate 32 0)) := ad
          have HAD := Lib.hid ad'
          clear a0 ad ad' al hbd
          go_wp2
          go_loopw [48] (fun vk w3 => ∃ (k : Nat) (D : List UInt8), k ≤ 32 ∧ vk = .int .i64 (k : Int) ∧ Arr w3 g10 27 (Lib.byteCells D) ∧ D.length = 32 ∧ (∀ p, p < k → D.getD p 0 = db S p) ∧ wd.grownBy w3 (some g10)) (fun vk _ => 32 - (intOf vk).toNat)
          case atStart => exact ⟨0, _, by omega, rfl, HAD.out, rfl, fun p h => by omega, ⟨rfl, rfl, rfl, Nat.le_refl _, fun _ _ _ => rfl⟩⟩
          case round =>
            obtain ⟨k, D, hk, rfl, ad, hDl, hD, hgd⟩ := hrel
            have HD := Lib.hid hD
            clear hD
            by_cases hk32 : k < 32
            · have ct : decide ((k : Int) < 32) = true := decide_eq_true (by omega)
              have hq : k / 4 < S.length := by omega
              have cs := ((arr_grown HAL.out hgd (by omega)).cell (k / 4))
              rw [wc_at S (k / 4) hq] at cs
              have cd := ad.cell' k (by rw [Lib.byteCells, List.length_map]; omega)
              have fd := ad.frozen k
              obtain ⟨sh, hsh⟩ : ∃ sh, 24 - k % 4 * 8 = sh := ⟨_, rfl⟩
              have HC := Lib.hid (show S.getD (k / 4) 0 = S[k / 4] by simp [List.getD_eq_getElem?_getD, List.getElem?_eq_getElem hq])
              have Hsh := Lib.hid hsh
              generalize S[k / 4]'hq = y at *
              go_wp2
              go_roundw
              case rel =>
                have hx : (y : Int) / 2 ^ sh % 256 = ((db S k).toNat : Int) := by
                  unfold db
                  rw [Hsh.out, HC.out, UInt8.toNat_ofNat']
                  push_cast
                  rfl
                have ad2 := ad.set k (.int .u8 ((y : Int) / 2 ^ sh % 256))
                rw [hx, bc_set] at ad2
                rw [hx]
                refine ⟨k + 1, D.set k (db S k), by omega, by go_num, ad2, by rw [List.length_set]; exact hDl, ?_, grown_trans hgd (grown_set _ _ _ _)⟩
                intro p hp
                by_cases h : p = k
                · subst h
                  rw [List.getD_eq_getElem?_getD, List.getElem?_set_self (by omega)]
                  rfl
                · rw [getD_set_at_ne _ _ _ _ h]
                  exact HD.out p (by omega)
              case measure => simp [intOf]; omega
            · obtain rfl : k = 32 := by omega
              have ct : decide (((32 : Nat) : Int) < 32) = false := rfl
              have u32 : Tryd.prog.underlying 27 = some (.array 32 5) := by kernel_rfl
              have i32 : (Tryd.prog.info? 27).map (·.size) = some 32 := by kernel_rfl
              have U := Lib.hid u32
              have I := Lib.hid i32
              have AD := Lib.hid ad
              have n1 : (Lib.byteCells D).length = 32 := by rw [Lib.byteCells, List.length_map]; exact hDl
              have N1 := Lib.hid n1
              have AO := Lib.hid (arr_grown ((arr_grown HA1.out HG.out (by omega)).below HBD.out (by omega)) hgd (by omega))
              clear u32 i32 ad n1
              go_wp2_with (first | (refine Arr.loadL AD.out rfl 27 (.tmp 10) rfl rfl U.out rfl I.out N1.out ?_) | (refine Arr.storeL AO.out rfl 27 (.tmp 6) (.tmp 64) rfl rfl (Lib.byteCells D) rfl I.out (by simp [Lib.byteCells]) N1.out (bytes_one D) ?_))
              have hDd := HashX.digest_of S hSl D hDl HD.out
              have hbF : Below w.heap.size w (wr.setRow (w.heap.size + 1) (Lib.byteCells D).toArray) :=
                below_row (HBW8.out.trans ((below_of_grown HG.out (Nat.le_refl _) (by have := HS8.out; omega)).trans ((HBD.out.mono (by omega)).trans (below_of_grown hgd (by omega) (by have := HBD.out.size; omega))))) (by omega) _
              have AF := Lib.hid (AO.out.row (Lib.byteCells D))
              have HBF := Lib.hid hbF
              clear AD AO hbF
              refine bodyPost_ret (v := .agg (Lib.byteCells D).toArray) (by exact AF.out.ret rfl _ rfl U.out rfl I.out N1.out) rfl ⟨?_, HBF.out⟩
              rw [hDd, HS.out]
              unfold hend
              rw [HP.out]
end Go.Proofs.YtnlhcogmccladaaDoor.HashEndW
