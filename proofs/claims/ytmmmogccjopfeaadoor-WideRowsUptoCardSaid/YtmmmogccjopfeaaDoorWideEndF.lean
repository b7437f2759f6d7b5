/-
  wide.message.end: what it hands back and leaves behind. Conditions: in each statement.
-/
import Derived.Test.YtmmmogccjopfeaaDoorWideAdd
namespace Go.Proofs.YtmmmogccjopfeaaDoor.WideEndFW
open Go.RowKit BytesW CellsW LongsW ArrW ArrG ArrL WideM WideX WideTurnW WideMore WideEndW WideCompW WideOctW WideAddW

/-- A row into which the first k bytes of B have been laid from place o on. -/
def put (D : List UInt8) (o : Nat) (B : List UInt8) (k : Nat) : List UInt8 := D.take o ++ (B.take k ++ D.drop (o + k))
theorem put_zero (D : List UInt8) (o : Nat) (B : List UInt8) : put D o B 0 = D := by simp [put]
theorem put_len (D : List UInt8) (o : Nat) (B : List UInt8) (k : Nat) (hk : k ≤ B.length) (h : o + k ≤ D.length) : (put D o B k).length = D.length := by simp [put]; omega
theorem put_set (D : List UInt8) (o : Nat) (B : List UInt8) (k : Nat) (hk : k < B.length) (h : o + k < D.length) : (put D o B k).set (o + k) (B.getD k 0) = put D o B (k + 1) := by
  unfold put
  rw [List.set_append, if_neg (by simp; omega), List.set_append, if_neg (by simp; omega), List.take_succ_eq_append_getElem hk, List.append_assoc]
  rw [show o + k - (D.take o).length - (B.take k).length = 0 by simp; omega, List.drop_eq_getElem_cons h, List.set_cons_zero, List.getD_eq_getElem?_getD, List.getElem?_eq_getElem hk]
  rfl
theorem put_take (D : List UInt8) (o : Nat) (B : List UInt8) (h : o + B.length ≤ D.length) : (put D o B B.length).take (o + B.length) = D.take o ++ B := by
  unfold put
  rw [List.take_of_length_le (l := B) (by omega), ← List.append_assoc, List.take_append_of_le_length (by simp; omega), List.take_of_length_le (by simp; omega)]
theorem put_all (D B : List UInt8) (h : D.length = B.length) : put D 0 B B.length = B := by
  unfold put
  rw [List.take_of_length_le (l := B) (by omega), List.drop_of_length_le (by omega)]
  simp
theorem be_db (x : Nat) (h : x < 18446744073709551616) : VecM.be 16 x = (List.range 16).map (db [0, x]) := by
  simp only [VecM.be]
  simp [List.range, List.range.loop, db, Nat.div_div_eq_div_mul]
  have z : ∀ d, 18446744073709551616 ≤ d → UInt8.ofNat (x / d) = 0 := fun d hd => by rw [Nat.div_eq_of_lt (by omega)]; rfl
  exact ⟨z _ (by decide), z _ (by decide), z _ (by decide), z _ (by decide), z _ (by decide), z _ (by decide), z _ (by decide), z _ (by decide)⟩
theorem be_at (x k : Nat) (h : x < 18446744073709551616) (hk : k < 16) : (VecM.be 16 x).getD k 0 = db [0, x] k := by
  rw [be_db x h, List.getD_eq_getElem?_getD, List.getElem?_map, List.getElem?_range hk]
  rfl
theorem digest_at (S : List Nat) (k : Nat) (h : S.length = 8) (hk : k < 64) : (digest S).getD k 0 = db S k := by
  rw [digest_db S h, List.getD_eq_getElem?_getD, List.getElem?_map, List.getElem?_range hk]
  rfl
/-- The byte 128 and noughts. -/
def D0 : List UInt8 := 128 :: List.replicate 143 0
theorem D0_len : D0.length = 144 := by simp [D0]
theorem D0_take (z : Nat) (h : z ≤ 143) : D0.take (1 + z) = [128] ++ List.replicate z 0 := by
  unfold D0
  rw [Nat.add_comm, List.take_succ_cons, List.take_replicate, Nat.min_eq_left h]
  rfl

theorem grown_new {w X Y : World} {g k : Nat} (h : w.grownBy X (some g)) (hk : X.grownBy Y (some k)) (hn : w.heap.size ≤ k) : w.grownBy Y (some g) :=
  ⟨hk.os.trans h.os, hk.tape.trans h.tape, hk.output.trans h.output, Nat.le_trans h.size hk.size, fun i hi hne => (hk.block i (Nat.lt_of_lt_of_le hi h.size) (fun e => by cases e; omega)).trans (h.block i hi hne)⟩
theorem ls_new (w : World) (l : List Nat) (t : TypeId) : Ls (w.alloc (.cells (lc l).toArray t)) (w.alloc (.cells (lc l).toArray t)).heap.size (some ⟨w.heap.size, 0, none⟩) l := by
  intro _
  have h := Arr.new w (lc l).toArray t
  refine ⟨_, rfl, h.lt, fun k hk => ?_⟩
  have e : (⟨w.heap.size, 0, none⟩ : Addr).add k = ⟨w.heap.size, k, none⟩ := by unfold Addr.add; split <;> simp_all
  rw [e, h.cell]
  simp [lc, List.getElem?_eq_getElem hk]
theorem mc_ls {w : World} {g : Nat} {t : TypeId} {S : List Nat} {n : Nat} {R : List UInt8} (h : Arr w g t (mc S n R)) : Ls w w.heap.size (some ⟨g, 0, none⟩) S := by
  intro _
  refine ⟨_, rfl, h.lt, fun k hk => ?_⟩
  have e : (⟨g, 0, none⟩ : Addr).add k = ⟨g, k, none⟩ := by unfold Addr.add; split <;> simp_all
  rw [e, h.cell]
  unfold mc
  rw [List.getElem?_append_left (by rw [lc_length]; exact hk)]
  simp [lc, List.getElem?_eq_getElem hk]

theorem arr_bs {w : World} {g : Nat} {t : TypeId} {l : List UInt8} (h : Arr w g t (Lib.byteCells l)) : Bs w w.heap.size (some ⟨g, 0, none⟩) l := by
  intro _
  refine ⟨_, rfl, h.lt, fun k hk => ?_⟩
  have e : (⟨g, 0, none⟩ : Addr).add k = ⟨g, k, none⟩ := by unfold Addr.add; split <;> simp_all
  rw [e, h.cell]
  simp [Lib.byteCells, List.getElem?_eq_getElem hk]

/-- The zero tail; the tail that is built. -/
theorem zero144 : ∃ zs : Array Value, zs = (Lib.byteCells (List.replicate 144 0)).toArray ∧ ¬ zs = #[] ∧ (∀ w, (zeroValue 61).run Tryd.prog w = .ok (.agg zs) w) ∧ (Tryd.prog.info? 61).map (·.size) = some 144 :=
  ⟨_, rfl, by simp [Lib.byteCells], zero_of_info (n := 144) (by kernel_rfl)⟩
theorem build_D0 (w : World) : (Instr.build 61 #[(0, .int .u8 128)]).run Tryd.prog w = .ok (.agg (Lib.byteCells D0).toArray) w := by kernel_rfl

set_option maxHeartbeats 8000000 in
set_option maxRecDepth 100000 in
theorem end_any (g : Nat) (pre R : List UInt8) (w : World) (hM : Arr w g 46 (mc (run IV pre) pre.length R)) (hR : R.length = 128) (hO : R.take (pre.length % 128) = over pre)
    (hlen : pre.length < 576460752303423488) (hT : TabR w) (hg : 2 ≠ g) :
    Calls Tryd.prog 17 #[.pointer (some ⟨g, 0, none⟩)] w fun e w' => e = .returned (.agg (Lib.byteCells (WideM.sum pre)).toArray) ∧ w.grownBy w' (some g) := by
  have hgl := hM.lt
  have HM := Lib.hid hM
  have HR := Lib.hid hR
  have HO := Lib.hid hO
  have HT := Lib.hid hT
  have HSm := Lib.hid (sm_run pre IV sm_IV)
  obtain ⟨zs, hzs, hzn, hz, hi⟩ := zero144
  have HZ := Lib.hid hzs
  have HI := Lib.hid hi
  have BD := Lib.hid build_D0
  have NB := Lib.hid (show (Lib.byteCells D0).length = 144 by rw [Lib.byteCells, List.length_map]; exact D0_len)
  have hMl := hM.cell 8
  rw [mc_long _ _ _ HSm.out.1] at hMl
  have HMl := Lib.hid hMl
  clear hM hR hO hT hzs hi hMl
  go_enter Tryd.func17, Tryd.ntmps17
  go_upto_region 1 with (fail)
  generalize hW : World.alloc _ _ = W0
  obtain ⟨r0, hb0, hs0⟩ := ArrG.start1 hW
  clear hW
  have AR0 : Hid (Arr W0 w.heap.size 24 (Lib.byteCells (List.replicate 64 0))) := Lib.hid r0
  have HB0 := Lib.hid hb0
  have HS0 := Lib.hid hs0
  clear r0 hb0 hs0
  go_upto_region 2 with (first | (refine buildL rfl rfl rfl (BD.out _) ?_) | (refine Arr.storeL (Arr.new W0 _ _) rfl 61 (.tmp 3) (.tmp 10) rfl rfl (Lib.byteCells D0) rfl HI.out (by rw [HZ.out]; rfl) NB.out (bytes_one _) ?_))
  generalize hw1 : World.setRow _ _ _ = W1
  obtain ⟨t1, hb1, hs1⟩ := filled hw1
  clear hw1 hz hzn
  obtain ⟨gt, hgt⟩ : ∃ gt, W0.heap.size = gt := ⟨_, rfl⟩
  have hgt1 : gt = w.heap.size + 1 := by rw [← hgt]; exact HS0.out
  rw [hgt] at t1 hs1 ⊢
  have Hgt := Lib.hid hgt1
  have HB1 := Lib.hid (HB0.out.trans (hb1.mono HB0.out.size))
  have T1 := Lib.hid t1
  have AR1 := Lib.hid (AR0.out.below hb1 AR0.out.lt)
  have HS1 := Lib.hid hs1
  clear hb1 t1 hs1 AR0 HB0 HS0 BD NB HZ HI hgt hgt1
  have HM1 := Lib.hid (HM.out.below HB1.out hgl)
  have c8 := (HB1.out.cell (p := ⟨g, 8, none⟩) hgl).trans HMl.out
  obtain ⟨N, hN⟩ : ∃ N, pre.length = N := ⟨_, rfl⟩
  have HN := Lib.hid hN
  rw [hN] at c8 hlen
  obtain ⟨r, hr⟩ : ∃ r, N % 128 = r := ⟨_, rfl⟩
  obtain ⟨z, hz⟩ : ∃ z, (239 - r) % 128 = z := ⟨_, rfl⟩
  have e0 : (N : Int).tmod 128 = (r : Int) := by rw [Int.tmod_eq_emod_of_nonneg (by omega)]; omega
  have e1 : (N : Int) % 128 = (r : Int) := by omega
  have e2 : ((239 : Int) - (r : Int)).tmod 128 = (z : Int) := by rw [Int.tmod_eq_emod_of_nonneg (by omega)]; omega
  have e3 : ((239 : Int) - (r : Int)) % 128 = (z : Int) := by omega
  have hzl : z < 128 := by omega
  have hrl : r < 128 := by omega
  have HZ := Lib.hid (show z = (239 - N % 128) % 128 by omega)
  have HL := Lib.hid hlen
  clear hN hr hz hlen HMl
  go_wp2_with fail
  refine (mul_any N (by have := HL.out; omega) _).mono ?_
  rintro _ _ ⟨rfl, rfl⟩
  clear e0 e1 e2 e3 c8
  obtain ⟨lo, hlo⟩ : ∃ lo, N * 8 = lo := ⟨_, rfl⟩
  rw [hlo]
  have HLo := Lib.hid hlo
  have hlol : lo < 18446744073709551616 := by have := HL.out; omega
  have HLol := Lib.hid hlol
  clear hlo hlol
  have HBe := Lib.hid (fun k hk => be_at lo k HLol.out hk)
  obtain ⟨B, hB⟩ : ∃ B, VecM.be 16 lo = B := ⟨_, rfl⟩
  have HBl := Lib.hid (show B.length = 16 by rw [← hB, VecM.be_length])
  rw [hB] at HBe
  have HBE := Lib.hid hB
  clear hB
  obtain ⟨o, ho⟩ : ∃ o, 1 + z = o := ⟨_, rfl⟩
  have y1 : (1 : Int) + (z : Int) = (o : Int) := by omega
  have hol : o ≤ 128 := by omega
  have HOz := Lib.hid ho
  clear ho
  go_wp2
  go_loopw [27] (fun v wr => ∃ k : Nat, k ≤ 16 ∧ v = .int .i64 (k : Int) ∧ Arr wr gt 61 (Lib.byteCells (put D0 o B k)) ∧ W1.grownBy wr (some gt)) (fun v _ => 16 - (intOf v).toNat)
  case atStart => exact ⟨0, by omega, rfl, by rw [put_zero]; exact T1.out, grownRefl _ _⟩
  case round =>
    obtain ⟨k, hk, rfl, tk, hgk⟩ := hrel
    by_cases hk16 : k < 16
    · have ct : decide ((k : Int) < 16) = true := decide_eq_true (by omega)
      obtain ⟨q, hq⟩ : ∃ q, o + k = q := ⟨_, rfl⟩
      have y2 : (o : Int) + (k : Int) = (q : Int) := by omega
      have hq144 : q < 144 := by omega
      have TK := Lib.hid tk
      have GK := Lib.hid hgk
      have PL := Lib.hid (put_len D0 o B k (by rw [HBl.out]; omega) (by rw [D0_len]; omega))
      have PS := Lib.hid (put_set D0 o B k (by rw [HBl.out]; omega) (by rw [D0_len]; omega))
      rw [hq, HBe.out k hk16] at PS
      clear tk hgk
      go_wp2_with fail
      generalize hV : World.alloc _ _ = V
      have hLs := ls_new wr [0, lo] 40
      have hVe : wr.alloc (.cells (lc [0, lo]).toArray 40) = V := hV
      rw [hVe] at hLs
      have TV := Lib.hid (show Arr V gt 61 (Lib.byteCells (put D0 o B k)) by rw [← hVe]; exact TK.out.alloc _)
      have GV := Lib.hid (show W1.grownBy V (some gt) by rw [← hVe]; exact grownTrans GK.out (grownOf ((Below.refl wr.heap.size wr).alloc (Nat.le_refl _) _)))
      have HC := Lib.hid (octet_any ⟨wr.heap.size, 0, none⟩ [0, lo] 2 2 k V hLs rfl (by decide) (by omega))
      clear hV hVe hLs TK GK
      refine HC.out.mono ?_
      clear HC
      rintro _ _ ⟨rfl, rfl⟩
      obtain ⟨d, hd⟩ : ∃ d, V.cell? ⟨gt, q, none⟩ = some d := ⟨_, TV.out.cell' q (by rw [Lib.byteCells, List.length_map, PL.out, D0_len]; exact hq144)⟩
      have hf := TV.out.frozen q
      go_wp2
      go_roundw
      case rel =>
        have h := TV.out.set q (.int .u8 ((db [0, lo] k).toNat : Int))
        rw [bc_set, PS.out] at h
        exact ⟨k + 1, by omega, by go_num, h, grownTrans GV.out (grownSet _ _ _ _)⟩
      case measure => simp [intOf]; omega
    · obtain rfl : k = 16 := by omega
      have ct : decide (((16 : Nat) : Int) < 16) = false := rfl
      have TK := Lib.hid tk
      have GK := Lib.hid hgk
      obtain ⟨m, hm⟩ : ∃ m, o + 16 = m := ⟨_, rfl⟩
      have y3 : (o : Int) + 16 = (m : Int) := by omega
      have hm144 : m ≤ 144 := by omega
      have i144 : (m : Int) ≤ 144 := by omega
      have HTa := Lib.hid (show (put D0 o B 16).take m = tail N by
        have h := put_take D0 o B (by rw [HBl.out, D0_len]; omega)
        rw [HBl.out, hm, ← HOz.out, D0_take z (by omega)] at h
        rw [← HOz.out, h, HZ.out, ← HBE.out, ← HLo.out]
        rfl)
      have HTl := Lib.hid (show (tail N).length = m by
        rw [← HTa.out, List.length_take, put_len D0 o B 16 (by rw [HBl.out]; omega) (by rw [D0_len]; omega), D0_len]
        omega)
      have Hm := Lib.hid hm
      clear tk hgk hm
      have MK := Lib.hid (arr_grown HM1.out GK.out (by have := Hgt.out; omega))
      have HB := Lib.hid (show Bs wr wr.heap.size (some ⟨gt, 0, none⟩) (tail N) by
        have h := (arr_bs TK.out).take m
        rw [HTa.out] at h
        exact h)
      have TW := Lib.hid (show TabR wr from TabR.grown (HT.out.below (HB1.out.mono (Nat.le_refl _))) GK.out (by have := HT.out.lt; have := Hgt.out; omega))
      have HA := Lib.hid (show Calls Tryd.prog 16 #[.pointer (some ⟨g, 0, none⟩), .slice (some ⟨gt, 0, none⟩) m 144] wr fun e w' => e = .returned (.tuple #[]) ∧ ∃ R' : List UInt8, R'.length = 128 ∧ Arr w' g 46 (mc (run IV (pre ++ tail N)) (pre ++ tail N).length R') ∧ wr.grownBy w' (some g) by
        have h := add_any g pre (tail N) R (some ⟨gt, 0, none⟩) 144 wr MK.out HR.out HO.out HB.out (by rw [HTl.out]; exact hm144) (fun _ ad e => by cases e; show gt ≠ g; have := Hgt.out; omega) (by rw [HTl.out, HN.out]; have := HL.out; omega) TW.out hg
        rw [HTl.out] at h
        exact h.mono fun e w' ⟨h1, R', h2, _, h3, h4⟩ => ⟨h1, R', h2, h3, h4⟩)
      go_wp2_with fail
      refine HA.out.mono ?_
      clear HA
      rintro _ w2 ⟨rfl, R', hR', m2, g2⟩
      have HSS := Lib.hid (show WideM.sum pre = digest (run IV (pre ++ tail N)) by rw [← HN.out]; exact sum_tail pre)
      have HSm2 := Lib.hid (sm_run (pre ++ tail N) IV sm_IV)
      generalize run IV (pre ++ tail N) = S at *
      generalize (pre ++ tail N).length = NN at *
      have G2 := Lib.hid (grownTrans (grown_new (grownOf (g := g) HB1.out) GK.out (by have := Hgt.out; omega)) g2)
      have AR2 := Lib.hid (arr_grown (arr_grown AR1.out GK.out (by have := Hgt.out; omega)) g2 (by omega))
      have M2 := Lib.hid m2
      clear m2 g2 AR1 GK TK HB1 T1 MK HB TW HM1
      go_upto_region 11 with (fail)
      generalize hw3 : World.alloc _ _ = w3
      obtain ⟨d3, hb3, hs3⟩ := ArrG.start1 hw3
      have A3' : Arr w3 w2.heap.size 24 (Lib.byteCells (List.replicate 64 0)) := d3
      obtain ⟨go, hgo⟩ : ∃ go, w2.heap.size = go := ⟨_, rfl⟩
      have hgo1 := AR2.out.lt
      have hgo2 := M2.out.lt
      rw [hgo] at A3' hs3 hgo1 hgo2 ⊢
      have Hgo := Lib.hid hgo1
      have Hgg := Lib.hid hgo2
      have O3 := Lib.hid A3'
      have G3 := Lib.hid (grownTrans G2.out (grownOf (g := g) hb3))
      have AR3 := Lib.hid (AR2.out.below hb3 AR2.out.lt)
      have M3 := Lib.hid (M2.out.below hb3 M2.out.lt)
      have HDl := Lib.hid (digest_len S HSm2.out.1)
      have HDa := Lib.hid (fun k hk => digest_at S k HSm2.out.1 hk)
      obtain ⟨D, hD⟩ : ∃ D, digest S = D := ⟨_, rfl⟩
      rw [hD] at HDl HDa HSS
      obtain ⟨Z, hZ⟩ : ∃ Z : List UInt8, List.replicate 64 0 = Z := ⟨_, rfl⟩
      have HZl := Lib.hid (show Z.length = 64 by rw [← hZ]; simp)
      rw [hZ] at O3 AR3
      clear d3 A3' hb3 hs3 hgo hgo1 hgo2 hw3 G2 AR2 M2 hD hZ HTa HTl Hm HBE HBe HBl HLol HLo HL HN HZ HOz y1 y3 ct hm144 i144 hol
      go_wp2
      go_loopw [47] (fun v wr => ∃ k : Nat, k ≤ 64 ∧ v = .int .i64 (k : Int) ∧ Arr wr go 24 (Lib.byteCells (put Z 0 D k)) ∧ w3.grownBy wr (some go)) (fun v _ => 64 - (intOf v).toNat)
      case atStart => exact ⟨0, by omega, rfl, by rw [put_zero]; exact O3.out, grownRefl _ _⟩
      case round =>
        rename_i wr2
        obtain ⟨k, hk, rfl, ok, hgk⟩ := hrel
        have OK := Lib.hid ok
        have GK := Lib.hid hgk
        clear ok hgk
        have MK := Lib.hid (arr_grown M3.out GK.out (by have := Hgg.out; omega))
        by_cases hk64 : k < 64
        · have ct : decide ((k : Int) < 64) = true := decide_eq_true (by omega)
          have PL := Lib.hid (put_len Z 0 D k (by rw [HDl.out]; omega) (by rw [HZl.out]; omega))
          have PS := Lib.hid (put_set Z 0 D k (by rw [HDl.out]; omega) (by rw [HZl.out]; omega))
          rw [Nat.zero_add, HDa.out k hk64] at PS
          have HC := Lib.hid (octet_any ⟨g, 0, none⟩ S 8 8 k _ (mc_ls MK.out) HSm2.out.1 (by decide) (by omega))
          go_wp2_with fail
          refine HC.out.mono ?_
          clear HC
          rintro _ _ ⟨rfl, rfl⟩
          obtain ⟨d, hd⟩ := (⟨_, OK.out.cell' k (by rw [Lib.byteCells, List.length_map, PL.out, HZl.out]; exact hk64)⟩ : ∃ d, _ = some d)
          have hf := OK.out.frozen k
          go_wp2
          go_roundw
          case rel =>
            have h := OK.out.set k (.int .u8 ((db S k).toNat : Int))
            rw [bc_set, PS.out] at h
            exact ⟨k + 1, by omega, by go_num, h, grownTrans GK.out (grownSet _ _ _ _)⟩
          case measure => simp [intOf]; omega
        · obtain rfl : k = 64 := by omega
          have ct : decide (((64 : Nat) : Int) < 64) = false := rfl
          have u64 : Tryd.prog.underlying 24 = some (.array 64 5) := by kernel_rfl
          have i64 : (Tryd.prog.info? 24).map (·.size) = some 64 := by kernel_rfl
          have U := Lib.hid u64
          have I := Lib.hid i64
          have EP : put Z 0 D 64 = D := by
            have h := put_all Z D (by rw [HZl.out, HDl.out])
            rw [HDl.out] at h
            exact h
          rw [EP] at OK
          have N1 := Lib.hid (show (Lib.byteCells D).length = 64 by rw [Lib.byteCells, List.length_map]; exact HDl.out)
          have N0 := Lib.hid (show (Lib.byteCells Z).length = 64 by rw [Lib.byteCells, List.length_map]; exact HZl.out)
          have ARk := Lib.hid (arr_grown AR3.out GK.out (by have := Hgo.out; omega))
          have AF := Lib.hid (ARk.out.row (Lib.byteCells D))
          have GF := Lib.hid (grown_new (grown_new G3.out GK.out (by have := Hgo.out; omega)) (grown_row _ w.heap.size (Lib.byteCells D).toArray) (Nat.le_refl _))
          clear u64 i64 EP MK
          go_wp2_with (first | (refine Arr.loadL OK.out rfl 24 (.tmp 8) rfl rfl U.out rfl I.out N1.out ?_) | (refine Arr.storeL ARk.out rfl 24 (.tmp 2) (.tmp 59) rfl rfl (Lib.byteCells D) rfl I.out N0.out N1.out (bytes_one D) ?_))
          refine bodyPost_ret (v := .agg (Lib.byteCells D).toArray) (by exact AF.out.ret rfl _ rfl U.out rfl I.out N1.out) rfl ⟨by rw [HSS.out], GF.out⟩
end Go.Proofs.YtmmmogccjopfeaaDoor.WideEndFW
