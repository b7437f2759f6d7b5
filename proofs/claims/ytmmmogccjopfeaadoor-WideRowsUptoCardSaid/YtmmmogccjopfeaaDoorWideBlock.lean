/-
  ticketwardref.EBlock: what it hands back. Conditions: in the statement.
-/
import Derived.Test.YtmmmogccjopfeaaDoorWideX
namespace Go.Proofs.YtmmmogccjopfeaaDoor.WideBlockW
open Go.RowKit BytesW CellsW LongsW ArrW WideM WideTurnW WideX BigW BigNewW BigFillW BigSetW

/-- Where a list of eight words lies. -/
theorem ls_all {w : World} {B : Nat} {ad : Addr} {l : List Nat} (h : Ls w B (some ad) l) (h0 : 0 < l.length) : ad.block < B ∧ ∀ (k : Nat) (hk : k < l.length), w.cell? (ad.add k) = some (.int .u64 (l[k] : Int)) := by
  obtain ⟨ad', e, hb, hc⟩ := h h0
  cases e
  exact ⟨hb, hc⟩

set_option maxHeartbeats 40000000 in
set_option maxRecDepth 100000 in
theorem eblock_any (A0 : Option Addr) (c0 : Nat) (S : List Nat) (A : Option Addr) (l : List UInt8) (c : Nat) (w : World) (hS : Ls w w.heap.size A0 S) (hSl : S.length = 8) (hSs : ∀ x ∈ S, x < 18446744073709551616) (hA : Bs w w.heap.size A l) (hl : l.length = 128) (hc : 128 ≤ c) (hT : TabE w) :
    Calls Tryd.prog 13 #[.slice A0 8 c0, .slice A 128 c] w fun e w' => ∃ v, e = .returned v ∧ LRow w.heap.size w' v (block S l) ∧ Below w.heap.size w w' := by
  have HT := Lib.hid hT
  have HS := Lib.hid hS
  have HA := Lib.hid hA
  have HSs := Lib.hid hSs
  have HSl := Lib.hid hSl
  have HL := Lib.hid hl
  obtain ⟨ad0, rfl, _, _⟩ := hS (by omega)
  obtain ⟨ad, rfl, _, _⟩ := hA (by omega)
  clear hT hS hA hSs hSl hl
  go_enter Tryd.func13, Tryd.ntmps13
  go_wp2
  go_loopw [5, 6] (fun v k wr => ∃ i : Nat, i ≤ 16 ∧ k = .int .i64 ((8 * i : Nat) : Int) ∧ LRow w.heap.size wr v ((words l).take i) ∧ Below w.heap.size w wr) (fun _ k _ => 128 - (intOf k).toNat)
  case atStart => exact ⟨0, by omega, rfl, LRow.nil _ _, Below.refl _ _⟩
  case round =>
    obtain ⟨i, hi, rfl, hrow, hb⟩ := hrel
    by_cases hlt : i < 16
    · obtain ⟨p, hp⟩ : ∃ p, 8 * i = p := ⟨_, rfl⟩
      have hp1 : p + 8 ≤ 128 := by omega
      have HW := Lib.hid (words_take l i hlt)
      have h8 : ((l.drop (8 * i)).take 8).length = 8 := by rw [List.length_take, List.length_drop, HL.out]; omega
      rw [hp] at HW h8 ⊢
      obtain ⟨y, hy⟩ : ∃ y, (l.drop p).take 8 = y := ⟨_, rfl⟩
      have hby : Bs wr wr.heap.size (some (ad.add p)) y := by rw [← hy]; exact (((HA.out.below hb).more hb.size).drop p).take 8
      rw [hy] at HW h8
      have hbz : Below wr.heap.size wr (wr.alloc zeroObj) := (Below.refl _ _).alloc (Nat.le_refl _) _
      have hsb := setb_any wr.heap.size false none 0 0 (some (ad.add p)) y (c - p) (wr.alloc zeroObj) (zero_arr wr) ((hby.below hbz).more hbz.size) (by omega)
      rw [h8] at hsb
      have HSB := Lib.hid hsb
      have HRow := Lib.hid hrow
      have HB := Lib.hid hb
      have HP := Lib.hid hp
      have HY8 := Lib.hid h8
      have g3 : p + 8 - p = 8 := by omega
      have g2 : p + 8 ≤ c := by omega
      have lt1 : decide ((p : Int) < 128) = true := decide_eq_true (by omega)
      obtain ⟨wz, hwz⟩ : ∃ wz, wr.alloc zeroObj = wz := ⟨_, rfl⟩
      have HWZ : Hid (wr.alloc (.cells #[.bool false, .slice none 0 0] 35) = wz) := Lib.hid hwz
      rw [hwz] at HSB hbz
      have HBZ := Lib.hid hbz
      have hgz : wr.heap.size < wz.heap.size := by rw [← hwz]; simp [zeroObj]
      clear hsb hrow hb hp hy hby h8 hbz hwz
      go_wp2_with fail
      rw [HWZ.out]
      refine HSB.out.mono ?_
      clear HSB
      rintro e w2 ⟨rfl, ⟨n, hi2, hdv⟩, hg2⟩
      have hvl := VecM.val_lt y
      rw [HY8.out] at hvl
      have hdl : n.length ≤ 2 := tidy_len hi2.2.2 (by rw [hdv]; simp only [Nat.reducePow] at hvl ⊢; omega)
      have HU := Lib.hid (u64_any wr.heap.size false n w2 hi2 hdl)
      have hb2 := HBZ.out.trans (below_of_grown hg2 (Nat.le_refl _) (Nat.le_of_lt hgz))
      have HRow2 := Lib.hid (HRow.out.below hb2)
      have HB2 := Lib.hid (HB.out.trans (hb2.mono HB.out.size))
      rw [hdv] at HU
      obtain ⟨m, hm⟩ : ∃ m, VecM.val y = m := ⟨_, rfl⟩
      rw [hm] at HU HW
      clear hi2 hdv hg2 hvl hdl hb2 HRow HB HBZ hm
      go_wp2_with fail
      refine HU.out.mono ?_
      clear HU
      rintro e _ ⟨rfl, rfl⟩
      have hnew := newLong w2 m
      have hrow3 := HRow2.out.alloc (.cells #[.int .u64 (m : Int)] 40)
      have hsz2 : w.heap.size ≤ (w2.alloc (.cells #[.int .u64 (m : Int)] 40)).heap.size := by have := HB2.out.size; simp; omega
      have hxl : ((words l).take i).length ≤ 16 := by rw [List.length_take]; omega
      generalize (words l).take i = xs at *
      clear HRow2
      go_wp2_with (at_builtin; go_must (refine lapp1 rfl (.tmp 21) (.tmp 30) rfl w.heap.size _ xs rfl hrow3 ⟨w2.heap.size, 0, none⟩ 1 m rfl hnew (by omega) hsz2 ?_))
      intro v2 w3 hr3 hb3
      clear hnew hrow3 hsz2
      go_wp2
      go_roundw
      case rel => exact ⟨i + 1, by omega, by have := HP.out; go_num, by rw [HW.out]; exact hr3, (HB2.out.alloc HB2.out.size _).trans hb3⟩
      case measure => have := HP.out; simp [intOf]; omega
    · obtain rfl : i = 16 := by omega
      rw [List.take_of_length_le (by simp [words])] at hrow
      simp only [show ((8 * 16 : Nat) : Int) = 128 from rfl]
      go_wp2
      go_loopw [5, 7] (fun v k wr => ∃ (i : Nat), 16 ≤ i ∧ i ≤ 80 ∧ k = .int .i64 (i : Int) ∧ LRow w.heap.size wr v (ext (i - 16) (words l)) ∧ Below w.heap.size w wr) (fun _ k _ => 80 - (intOf k).toNat)
      case atStart => exact ⟨16, by omega, by omega, rfl, hrow, hb⟩
      case round =>
        clear hrow hb
        obtain ⟨k, hk1, hk2, rfl, hrow, hb⟩ := hrel
        by_cases hk : k < 80
        · have hel : (ext (k - 16) (words l)).length = k := by rw [ext_len]; omega
          have hlt := ext_lt (k - 16) l
          have f16 : k - 16 < (ext (k - 16) (words l)).length := by omega
          have f7 : k - 7 < (ext (k - 16) (words l)).length := by omega
          have f15 : k - 15 < (ext (k - 16) (words l)).length := by omega
          have f2 : k - 2 < (ext (k - 16) (words l)).length := by omega
          have HE := Lib.hid (ext_succ l k hk1 f16 f7 f15 f2)
          obtain ⟨A1, c1, rfl, hU, hc1⟩ := hrow.form
          obtain ⟨ad1, rfl, _, c16⟩ := hU.at_ (k := k - 16) f16
          obtain ⟨_, e, _, c7⟩ := hU.at_ (k := k - 7) f7
          cases e
          obtain ⟨_, e, _, c15⟩ := hU.at_ (k := k - 15) f15
          cases e
          obtain ⟨_, e, _, c2⟩ := hU.at_ (k := k - 2) f2
          cases e
          have l16 := hlt _ (List.getElem_mem f16)
          have l7 := hlt _ (List.getElem_mem f7)
          have l15 := hlt _ (List.getElem_mem f15)
          have l2 := hlt _ (List.getElem_mem f2)
          have HRow := Lib.hid hrow
          have HLen := Lib.hid hel
          have HB := Lib.hid hb
          have e16 : IntKind.i64.wrap ((k : Int) - 16) = ((k - 16 : Nat) : Int) := by rw [IntWalk.i64_in _ (by omega)]; omega
          have e7 : IntKind.i64.wrap ((k : Int) - 7) = ((k - 7 : Nat) : Int) := by rw [IntWalk.i64_in _ (by omega)]; omega
          have e15 : IntKind.i64.wrap ((k : Int) - 15) = ((k - 15 : Nat) : Int) := by rw [IntWalk.i64_in _ (by omega)]; omega
          have e2 : IntKind.i64.wrap ((k : Int) - 2) = ((k - 2 : Nat) : Int) := by rw [IntWalk.i64_in _ (by omega)]; omega
          clear hU hlt hrow hel hb
          generalize (ext (k - 16) (words l))[k - 16]'_ = wa at *
          generalize (ext (k - 16) (words l))[k - 7]'_ = wb at *
          generalize (ext (k - 16) (words l))[k - 15]'_ = wx at *
          generalize (ext (k - 16) (words l))[k - 2]'_ = wy at *
          generalize ext (k - 16) (words l) = xs at *
          go_wp2
          go_quiet (fail)
          go_wp2
          clear c15 c2
          have C1 := Lib.hid (turn_in wr 1 wx 1 rfl (by decide) (by decide) l15)
          have C8 := Lib.hid (turn_in wr 8 wx 8 rfl (by decide) (by decide) l15)
          have C19 := Lib.hid (turn_in wr 19 wy 19 rfl (by decide) (by decide) l2)
          have C61 := Lib.hid (turn_in wr 61 wy 61 rfl (by decide) (by decide) l2)
          have x1 := Bits.xor_u64 (rot 1 wx) (rot 8 wx) (rot_lt 1 wx (by decide) l15) (rot_lt 8 wx (by decide) l15)
          have x2 := Bits.xor_u64 (rot 19 wy) (rot 61 wy) (rot_lt 19 wy (by decide) l2) (rot_lt 61 wy (by decide) l2)
          obtain ⟨d1, hd1, q1⟩ : ∃ d1, d1 = wx / 128 ∧ IntKind.u64.wrap ((wx : Int) / 128) = (d1 : Int) := ⟨_, rfl, wrap_div wx 128 l15⟩
          obtain ⟨d2, hd2, q2⟩ : ∃ d2, d2 = wy / 64 ∧ IntKind.u64.wrap ((wy : Int) / 64) = (d2 : Int) := ⟨_, rfl, wrap_div wy 64 l2⟩
          have x3 : bits .xor .u64 ((rot 1 wx ^^^ rot 8 wx : Nat) : Int) (d1 : Int) = (ls0 wx : Int) := by subst hd1; exact Bits.xor_u64 _ _ (xor_lt _ _ (rot_lt 1 wx (by decide) l15) (rot_lt 8 wx (by decide) l15)) (Nat.lt_of_le_of_lt (Nat.div_le_self _ _) l15)
          have x4 : bits .xor .u64 ((rot 19 wy ^^^ rot 61 wy : Nat) : Int) (d2 : Int) = (ls1 wy : Int) := by subst hd2; exact Bits.xor_u64 _ _ (xor_lt _ _ (rot_lt 19 wy (by decide) l2) (rot_lt 61 wy (by decide) l2)) (Nat.lt_of_le_of_lt (Nat.div_le_self _ _) l2)
          obtain ⟨p1, hp1, y1⟩ : ∃ p1, p1 = (wa + wb) % 18446744073709551616 ∧ IntKind.u64.wrap ((wa : Int) + wb) = (p1 : Int) := ⟨_, rfl, wrap_add _ _⟩
          obtain ⟨p2, hp2, y2⟩ : ∃ p2, p2 = (p1 + ls0 wx) % 18446744073709551616 ∧ IntKind.u64.wrap ((p1 : Int) + (ls0 wx : Int)) = (p2 : Int) := ⟨_, rfl, wrap_add _ _⟩
          obtain ⟨p3, hp3, y3⟩ : ∃ p3, p3 = nw wa wb wx wy ∧ IntKind.u64.wrap ((p2 : Int) + (ls1 wy : Int)) = (p3 : Int) := ⟨_, rfl, by rw [wrap_add]; unfold nw; omega⟩
          rw [← hp3] at HE
          clear hp1 hp2 hp3 hd1 hd2 l16 l7 l15 l2
          refine Phase.wp_region_phases [([0], [1, 2, 3, 4, 5, 6, 7, 8, 9, 10, 11, 12, 13, 14, 15, 16, 17, 18, 19, 20, 21, 22, 23, 24, 25, 26, 27, 28, 29], some 30), ([], [], some 31), ([], [], some 32)] (fun W => ∃ n, W = wr.drewN n) (by kernel_rfl) (by kernel_rfl) (fun _ _ d _ _ h => by cases d <;> exact h) ⟨nq + 1, rfl⟩ ?_
          refine Phase.g_alone rfl ?_
          refine Phase.p_step rfl (fun K hK => ?_)
          go_simp
          refine hK _ ?_
          clear hK K
          refine Phase.p_nil ?_
          repeat (refine Phase.q_step rfl (fun K hK => ?_); go_simp; first | (refine hK _ ?_; clear hK K) | (apply Exists.intro; refine ⟨fun _ => ?_, hK _ ?_⟩; (first | (with_reducible exact C1.out _) | (with_reducible exact C8.out _) | (with_reducible exact C19.out _) | (with_reducible exact C61.out _)); clear hK K))
          refine Phase.q_nil ?_
          rintro _ ⟨n1, rfl⟩ K hK
          go_simp
          refine hK _ _ ⟨fun W => W = (wr.drewN n1).alloc (.cells #[.int .u64 (p3 : Int)] 40), rfl, ?_⟩
          clear hK K C1 C8 C19 C61 x1 x2 x3 x4 q1 q2 y1 y2 y3
          have hb2 := drewN HB.out n1
          have hrow2 := ((HRow.out.below (drewN (Below.refl _ wr) n1)).alloc (.cells #[.int .u64 (p3 : Int)] 40))
          have hnew := newLong (wr.drewN n1) p3
          have hsz0 : (wr.drewN n1).heap.size = wr.heap.size := rfl
          have hs2 := HB.out.size
          refine Phase.g_alone rfl (Phase.p_nil (Phase.q_nil ?_))
          rintro _ rfl K hK
          refine Eq.mpr (if_pos (by rfl)) ?_
          refine lapp1_wp (.tmp 46) (.tmp 76) rfl w.heap.size _ xs rfl hrow2 ⟨wr.heap.size, 0, none⟩ 1 p3 rfl hnew (by rw [HLen.out]; omega) (by simp; omega) ?_
          intro v2 w2 hr3 hb3
          refine hK _ _ ⟨fun W => W = w2, rfl, ?_⟩
          clear hK K
          have hbb := (hb2.alloc (by rw [hsz0]; omega) _).trans hb3
          refine Phase.g_alone rfl (Phase.p_nil (Phase.q_nil ?_))
          rintro w2 rfl K hK
          go_simp
          refine hK _ _ ⟨fun W => W = w2, rfl, ?_⟩
          clear hK K
          refine Phase.g_nil ?_
          rintro w2 rfl
          clear hb2 hb3 hnew hrow2 e16 e7 e15 e2
          go_wp2
          go_roundw
          case rel => exact ⟨k + 1, by omega, by omega, by go_num, by rw [HE.out]; exact hr3, hbb⟩
          case measure => simp [intOf]; omega
        · obtain rfl : k = 80 := by omega
          have hrow : LRow w.heap.size wr u5 (sched l) := hrow
          obtain ⟨AW, cW, rfl, hU, hcW⟩ := hrow.form
          have hsl : (sched l).length = 80 := ext_len 64 l
          have hsl' : (ext (80 - 16) (words l)).length = 80 := hsl
          rw [hsl] at hcW ⊢
          have HU : Hid (Ls wr wr.heap.size AW (sched l)) := Lib.hid hU
          have HSL := Lib.hid hsl
          have HWlt : Hid (∀ n ∈ sched l, n < 18446744073709551616) := Lib.hid (ext_lt 64 l)
          have HTr := Lib.hid (HT.out.below hb)
          have HBl := Lib.hid (show block S l = List.zipWith (fun x y => (x + y) % 18446744073709551616) S (rn (sched l) (ofList S) 80).toList from rfl)
          have HSr := Lib.hid ((HS.out.below hb).more hb.size)
          have HB := Lib.hid hb
          have hr0 := LRow.empty wr.heap.size wr (Nat.le_refl _)
          have hbE : Below wr.heap.size wr (wr.alloc (.cells #[] 40)) := (Below.refl _ _).alloc (Nat.le_refl _) _
          have hSE := HSr.out.below hbE
          clear hsl hsl' hrow hU hb
          generalize sched l = SL at *
          rename World => n0
          simp only [show ((80 : Nat) : Int) = 80 from rfl]
          go_wp2_with (at_builtin; go_must (refine lappN rfl (.tmp 78) (.tmp 79) rfl n0.heap.size n0.heap.size _ [] rfl hr0 ad0 S 8 c0 rfl HSl.out hSE (by rw [HSl.out]; simp) (by simp) ?_))
          intro v3 w3 hr3 hb3
          have HB3 := Lib.hid (hbE.trans hb3)
          have HR3 : Hid (LRow n0.heap.size w3 v3 S) := Lib.hid hr3
          clear hr0 hSE hbE hr3 hb3
          go_wp2
          go_loopw [10, 81] (fun v k wr => ∃ (j : Nat) (V : List Nat), j ≤ 80 ∧ k = .int .i64 (j : Int) ∧ LRow n0.heap.size wr v V ∧ V.length = 8 ∧ ofList V = rn SL (ofList S) j ∧ Below n0.heap.size n0 wr) (fun _ k _ => 80 - (intOf k).toNat)
          case atStart => exact ⟨0, S, by omega, rfl, HR3.out, HSl.out, rfl, HB3.out⟩
          case round =>
            obtain ⟨j, V, hj, rfl, hrow, hVl, hV, hb⟩ := hrel
            have hsm := small_list HSl.out HSs.out
            have hsj := rn_small SL _ hsm j
            rw [← hV] at hsj
            obtain ⟨a, b, c', d, e, f, g, h, rfl⟩ := eight hVl
            obtain ⟨A10, c10, rfl, -, -⟩ := hrow.form
            obtain ⟨g10, rfl, -, hc10, hg10, -, hcl, hfr⟩ := hrow.place (by simp)
            simp only [List.length_cons, List.length_nil, Nat.zero_add, Nat.reduceAdd] at hc10 ⊢
            by_cases hlt : j < 80
            · obtain ⟨la, lb, lc', ld, le, lf, lg, lh⟩ := hsj
              simp only [ofList, List.getD_cons_zero, List.getD_cons_succ] at la lb lc' ld le lf lg lh
              have HV := Lib.hid hV
              have HRow := Lib.hid hrow
              have HB4 := Lib.hid hb
              have k0 : wr.cell? ⟨g10, 0, none⟩ = some (.int .u64 (a : Int)) := hcl 0 (by simp)
              have k4 : wr.cell? ⟨g10, 4, none⟩ = some (.int .u64 (e : Int)) := hcl 4 (by simp)
              have hjl : j < SL.length := by rw [HSL.out]; exact hlt
              have HNew : Hid (rn SL (ofList S) (j + 1) = rnd (K.getD j 0) (SL[j]'hjl) ⟨a, b, c', d, e, f, g, h⟩) := Lib.hid (by rw [rn, ← HV.out, List.getD_eq_getElem?_getD (l := SL), List.getElem?_eq_getElem hjl]; rfl)
              clear hV hrow hb hcl hfr hVl hsm
              go_wp2
              go_quiet (fail)
              go_wp2
              have hq : Below wr.heap.size wr (wr.drewN nq) := drewN (Below.refl _ _) nq
              obtain ⟨w4, hw4⟩ : ∃ x, wr.drewN nq = x := ⟨_, rfl⟩
              rw [hw4] at hq ⊢
              have hrow4 := HRow.out.below hq
              have hb4 := HB4.out.trans (hq.mono HB4.out.size)
              obtain ⟨_, hge, -, -, -, -, hcl, hfr⟩ := hrow4.place (by simp)
              cases hge
              have k1 : w4.cell? ⟨g10, 1, none⟩ = some (.int .u64 (b : Int)) := hcl 1 (by simp)
              have k2 : w4.cell? ⟨g10, 2, none⟩ = some (.int .u64 (c' : Int)) := hcl 2 (by simp)
              have k5 : w4.cell? ⟨g10, 5, none⟩ = some (.int .u64 (f : Int)) := hcl 5 (by simp)
              have k6 : w4.cell? ⟨g10, 6, none⟩ = some (.int .u64 (g : Int)) := hcl 6 (by simp)
              have k7 : w4.cell? ⟨g10, 7, none⟩ = some (.int .u64 (h : Int)) := hcl 7 (by simp)
              have ck := HTr.out.below hb4 j hlt
              obtain ⟨ad2, had, _, cw⟩ := (HU.out.below hb4).at_ hjl
              subst had
              have lw := HWlt.out _ (List.getElem_mem hjl)
              have HRow4 := Lib.hid hrow4
              have HB5 := Lib.hid hb4
              clear hrow4 hb4 hcl hfr hq hw4 k0 k4 HRow HB4
              generalize SL[j]'hjl = wj at *
              generalize K.getD j 0 = kj at *
              obtain ⟨r1, hr1, x1⟩ : ∃ r, r = rot 14 e ^^^ rot 18 e ∧ bits .xor .u64 (rot 14 e : Int) (rot 18 e : Int) = (r : Int) := ⟨_, rfl, Bits.xor_u64 _ _ (rot_lt 14 e (by decide) le) (rot_lt 18 e (by decide) le)⟩
              have lr1 : r1 < 18446744073709551616 := by rw [hr1]; exact xor_lt _ _ (rot_lt 14 e (by decide) le) (rot_lt 18 e (by decide) le)
              obtain ⟨r2, hr2, x2⟩ : ∃ r, r = bs1 e ∧ bits .xor .u64 (r1 : Int) (rot 41 e : Int) = (r : Int) := ⟨_, rfl, by rw [Bits.xor_u64 _ _ lr1 (rot_lt 41 e (by decide) le), hr1]; rfl⟩
              obtain ⟨z1, hz1, x5⟩ : ∃ r, r = f ^^^ g ∧ bits .xor .u64 (f : Int) (g : Int) = (r : Int) := ⟨_, rfl, Bits.xor_u64 _ _ lf lg⟩
              have lz1 : z1 < 18446744073709551616 := by rw [hz1]; exact xor_lt _ _ lf lg
              obtain ⟨z2, hz2, x6⟩ : ∃ r, r = e &&& z1 ∧ bits .and .u64 (e : Int) (z1 : Int) = (r : Int) := ⟨_, rfl, Bits.and_u64 _ _ le lz1⟩
              have lz2 : z2 < 18446744073709551616 := by rw [hz2]; exact Nat.and_lt_two_pow (n := 64) _ lz1
              obtain ⟨z3, hz3, x7⟩ : ∃ r, r = ch e f g ∧ bits .xor .u64 (g : Int) (z2 : Int) = (r : Int) := ⟨_, rfl, by rw [Bits.xor_u64 _ _ lg lz2, hz2, hz1, ch_eq e f g le lg]⟩
              obtain ⟨m1, hm1, y1⟩ : ∃ m, m = (h + r2) % 18446744073709551616 ∧ IntKind.u64.wrap ((h : Int) + (r2 : Int)) = (m : Int) := ⟨_, rfl, wrap_add _ _⟩
              obtain ⟨m2, hm2, y2⟩ : ∃ m, m = (m1 + z3) % 18446744073709551616 ∧ IntKind.u64.wrap ((m1 : Int) + (z3 : Int)) = (m : Int) := ⟨_, rfl, wrap_add _ _⟩
              obtain ⟨m3, hm3, y3⟩ : ∃ m, m = (m2 + kj) % 18446744073709551616 ∧ IntKind.u64.wrap ((m2 : Int) + (kj : Int)) = (m : Int) := ⟨_, rfl, wrap_add _ _⟩
              obtain ⟨m4, hm4, y4⟩ : ∃ m, m = t1 kj wj ⟨a, b, c', d, e, f, g, h⟩ ∧ IntKind.u64.wrap ((m3 : Int) + (wj : Int)) = (m : Int) := ⟨_, rfl, by rw [wrap_add, hm3, hm2, hm1, hr2, hz3]; unfold t1; simp only; omega⟩
              have lm4 : m4 < 18446744073709551616 := by rw [hm4]; exact Nat.mod_lt _ (by decide)
              have HM4 := Lib.hid hm4
              have C14 := Lib.hid (turn_in w4 14 e 14 rfl (by decide) (by decide) le)
              have C18 := Lib.hid (turn_in w4 18 e 18 rfl (by decide) (by decide) le)
              have C41 := Lib.hid (turn_in w4 41 e 41 rfl (by decide) (by decide) le)
              clear hr1 hr2 hz1 hz2 hz3 hm1 hm2 hm3 hm4 lr1 lz1 lz2
              go_quiet (first | (with_reducible exact C14.out _) | (with_reducible exact C18.out _) | (with_reducible exact C41.out _))
              clear C14 C18 C41 x1 x2 x5 x6 x7 y1 y2 y3 y4 ck cw k5 k6 k7
              go_wp2
              have hq : Below w4.heap.size w4 (w4.drewN nq) := drewN (Below.refl _ _) nq
              obtain ⟨w5, hw5⟩ : ∃ x, w4.drewN nq = x := ⟨_, rfl⟩
              rw [hw5] at hq ⊢
              have hrow5 := HRow4.out.below hq
              have HB6 := Lib.hid (HB5.out.trans (hq.mono HB5.out.size))
              obtain ⟨_, hge, -, -, -, -, hcl, hfr⟩ := hrow5.place (by simp)
              cases hge
              have k1 : w5.cell? ⟨g10, 1, none⟩ = some (.int .u64 (b : Int)) := hcl 1 (by simp)
              have k2 : w5.cell? ⟨g10, 2, none⟩ = some (.int .u64 (c' : Int)) := hcl 2 (by simp)
              have HRow5 := Lib.hid hrow5
              obtain ⟨r3, hr3, x3⟩ : ∃ r, r = rot 28 a ^^^ rot 34 a ∧ bits .xor .u64 (rot 28 a : Int) (rot 34 a : Int) = (r : Int) := ⟨_, rfl, Bits.xor_u64 _ _ (rot_lt 28 a (by decide) la) (rot_lt 34 a (by decide) la)⟩
              have lr3 : r3 < 18446744073709551616 := by rw [hr3]; exact xor_lt _ _ (rot_lt 28 a (by decide) la) (rot_lt 34 a (by decide) la)
              obtain ⟨r4, hr4, x4⟩ : ∃ r, r = bs0 a ∧ bits .xor .u64 (r3 : Int) (rot 39 a : Int) = (r : Int) := ⟨_, rfl, by rw [Bits.xor_u64 _ _ lr3 (rot_lt 39 a (by decide) la), hr3]; rfl⟩
              obtain ⟨u1, hu1, x5⟩ : ∃ r, r = a &&& b ∧ bits .and .u64 (a : Int) (b : Int) = (r : Int) := ⟨_, rfl, Bits.and_u64 _ _ la lb⟩
              have lu1 : u1 < 18446744073709551616 := by rw [hu1]; exact Nat.and_lt_two_pow (n := 64) _ lb
              obtain ⟨u2, hu2, x6⟩ : ∃ r, r = a ||| b ∧ bits .or .u64 (a : Int) (b : Int) = (r : Int) := ⟨_, rfl, Bits.or_u64 _ _ la lb⟩
              have lu2 : u2 < 18446744073709551616 := by rw [hu2]; exact Nat.or_lt_two_pow (n := 64) la lb
              obtain ⟨u3, hu3, x7⟩ : ∃ r, r = c' &&& u2 ∧ bits .and .u64 (c' : Int) (u2 : Int) = (r : Int) := ⟨_, rfl, Bits.and_u64 _ _ lc' lu2⟩
              have lu3 : u3 < 18446744073709551616 := by rw [hu3]; exact Nat.and_lt_two_pow (n := 64) _ lu2
              obtain ⟨u4, hu4, x8⟩ : ∃ r, r = maj a b c' ∧ bits .or .u64 (u1 : Int) (u3 : Int) = (r : Int) := ⟨_, rfl, by rw [Bits.or_u64 _ _ lu1 lu3, hu1, hu3, hu2, maj_eq]⟩
              obtain ⟨m5, hm5, y5⟩ : ∃ m, m = t2 ⟨a, b, c', d, e, f, g, h⟩ ∧ IntKind.u64.wrap ((r4 : Int) + (u4 : Int)) = (m : Int) := ⟨_, rfl, by rw [wrap_add, hr4, hu4]; unfold t2; simp only⟩
              have lm5 : m5 < 18446744073709551616 := by rw [hm5]; exact Nat.mod_lt _ (by decide)
              obtain ⟨m6, hm6, y6⟩ : ∃ m, m = (d + m4) % 18446744073709551616 ∧ IntKind.u64.wrap ((d : Int) + (m4 : Int)) = (m : Int) := ⟨_, rfl, wrap_add _ _⟩
              obtain ⟨m7, hm7, y7⟩ : ∃ m, m = (m4 + m5) % 18446744073709551616 ∧ IntKind.u64.wrap ((m4 : Int) + (m5 : Int)) = (m : Int) := ⟨_, rfl, wrap_add _ _⟩
              have HN2 : Hid (rn SL (ofList S) (j + 1) = ofList [m7, a, b, c', m6, e, f, g]) := Lib.hid (by rw [HNew.out, rnd, ← HM4.out, ← hm5, ← hm6, ← hm7]; rfl)
              have C28 := Lib.hid (turn_in w5 28 a 28 rfl (by decide) (by decide) la)
              have C34 := Lib.hid (turn_in w5 34 a 34 rfl (by decide) (by decide) la)
              have C39 := Lib.hid (turn_in w5 39 a 39 rfl (by decide) (by decide) la)
              have y6' : ((d : Int) + (m4 : Int)) % 18446744073709551616 = (m6 : Int) := by rw [← y6, u64_wrap]
              have y7' : ((m4 : Int) + (m5 : Int)) % 18446744073709551616 = (m7 : Int) := by rw [← y7, u64_wrap]
              clear hr3 lr3 hr4 hu1 lu1 hu2 lu2 hu3 lu3 hu4 hm5 hm6 hm7 hrow5 hq hw5 hcl hfr HNew HM4 HRow4 HB5
              go_quiet (first | (with_reducible exact C28.out _) | (with_reducible exact C34.out _) | (with_reducible exact C39.out _))
              clear C28 C34 C39 x3 x4 x5 x6 x7 x8 y5 k1 k2
              go_upto_region 18 with (fail)
              have hq : Below w5.heap.size w5 (w5.drewN nq) := drewN (Below.refl _ _) nq
              obtain ⟨w6, hw6⟩ : ∃ x, w5.drewN nq = x := ⟨_, rfl⟩
              rw [hw6] at hq ⊢
              have hb6 := HB6.out.trans (hq.mono HB6.out.size)
              have bE : Below w6.heap.size w6 (w6.alloc (.cells #[.int .u64 (m7 : Int)] 40)) := (Below.refl _ _).alloc (Nat.le_refl _) _
              have hrow6 := (HRow5.out.below hq).below bE
              obtain ⟨_, hge, -, -, -, hglt, hcl, -⟩ := hrow6.place (by simp)
              cases hge
              have hnew := LRow.lit n0.heap.size w6 [m7] hb6.size (by simp)
              have hsrc : Ls (w6.alloc (.cells #[.int .u64 (m7 : Int)] 40)) (w6.alloc (.cells #[.int .u64 (m7 : Int)] 40)).heap.size (some ⟨g10, 0, none⟩) [a, b, c', d, e, f, g] := fun _ => ⟨_, rfl, hglt, fun k hk => by
                have h8 : k < [a, b, c', d, e, f, g, h].length := by simp at hk ⊢; omega
                have := hcl k h8
                rw [show (⟨g10, 0, none⟩ : Addr).add k = ⟨g10, k, none⟩ by by_cases h0 : k = 0 <;> simp [Addr.add, h0], this]
                rw [init7 hk h8]⟩
              have HB7 := Lib.hid (hb6.trans (bE.mono hb6.size))
              clear hcl hq hw6 hb6 bE hrow6 HRow5 HB6
              go_wp2_with (at_builtin; go_must (refine lappN rfl (.tmp 152) (.tmp 154) rfl n0.heap.size _ _ [m7] rfl hnew ⟨g10, 0, none⟩ [a, b, c', d, e, f, g] 7 c10 rfl rfl hsrc (by simp) HB7.out.size ?_))
              intro v7 w7 hr7 hb7
              have HB8 := Lib.hid (HB7.out.trans hb7)
              clear hnew hsrc hb7 HB7
              have hr7 : LRow n0.heap.size w7 v7 [m7, a, b, c', d, e, f, g] := hr7
              obtain ⟨A7, c7, rfl, -, -⟩ := hr7.form
              obtain ⟨g7, rfl, -, hc7, hg7, -, hcl, hfr⟩ := hr7.place (by simp)
              simp only [List.length_cons, List.length_nil, Nat.zero_add, Nat.reduceAdd] at hc7 hr7 ⊢
              have k4 : w7.cell? ⟨g7, 4, none⟩ = some (.int .u64 (d : Int)) := hcl 4 (by simp)
              have f4 := hfr 4
              have HR8 := Lib.hid (hr7.set rfl 4 m6)
              simp only [List.set_cons_succ, List.set_cons_zero] at HR8
              have HB9 := Lib.hid (HB8.out.setCell (p := ⟨g7, 4, none⟩) hg7 (.int .u64 (m6 : Int)))
              clear hcl hfr hr7
              go_wp2
              go_roundw
              case rel => exact ⟨j + 1, _, by omega, by go_num, HR8.out, rfl, HN2.out.symm, HB9.out⟩
              case measure => simp [intOf]; omega
            · obtain rfl : j = 80 := by omega
              have ct : decide ((80 : Int) < 80) = false := rfl
              obtain ⟨X, hX⟩ : ∃ X, [a, b, c', d, e, f, g, h] = X := ⟨_, rfl⟩
              obtain ⟨R, hR⟩ : ∃ R, List.zipWith (fun x y => (x + y) % 18446744073709551616) S X = R := ⟨_, rfl⟩
              have hXl : X.length = 8 := by rw [← hX]; rfl
              have hRl : R.length = 8 := by rw [← hR, List.length_zipWith, HSl.out, hXl]; rfl
              have HRb : Hid (block S l = R) := Lib.hid (by rw [HBl.out, ← hV, ← hR, ← hX]; rfl)
              have HZ := Lib.hid (fun k hk => zip_get S X k HSl.out hXl hk)
              rw [hR] at HZ
              have HGt := Lib.hid (fun k hk h => stl_get X R k hXl hRl hk h)
              have HSt := Lib.hid (fun k hk => stl_set X R k hXl hRl hk)
              have HEd := Lib.hid (stage_end X R hXl hRl)
              have HSn := Lib.hid (fun k hk => stage_len X R k hXl hRl hk)
              have HX0 : Hid (stage X R 0 = X) := Lib.hid (by simp [stage])
              have HXs : Hid (∀ k, k < 8 → X.getD k 0 < 18446744073709551616) := Lib.hid (fun k hk => by
                obtain ⟨la, lb, lc', ld, le, lf, lg, lh⟩ := hsj
                simp only [ofList, List.getD_cons_zero, List.getD_cons_succ] at la lb lc' ld le lf lg lh
                rw [← hX]
                rcases (by omega : k = 0 ∨ k = 1 ∨ k = 2 ∨ k = 3 ∨ k = 4 ∨ k = 5 ∨ k = 6 ∨ k = 7) with rfl | rfl | rfl | rfl | rfl | rfl | rfl | rfl <;> simpa)
              have HRow : Hid (LRow n0.heap.size wr (.slice (some ⟨g10, 0, none⟩) 8 c10) X) := Lib.hid (by rw [← hX]; exact hrow)
              have HB9 := Lib.hid hb
              clear hX hR hXl hRl hsj hV hVl hrow hb hcl hfr hsm
              simp only [show ((80 : Nat) : Int) = 80 from rfl]
              go_wp2
              go_loopw [16, 165] (fun _ k wr2 => ∃ (i : Nat), i ≤ 8 ∧ k = .int .i64 (i : Int) ∧ LRow n0.heap.size wr2 (.slice (some ⟨g10, 0, none⟩) 8 c10) (stage X R i) ∧ Below n0.heap.size n0 wr2) (fun _ k _ => 8 - (intOf k).toNat)
              case atStart => exact ⟨0, by omega, rfl, by rw [HX0.out]; exact HRow.out, HB9.out⟩
              case round =>
                clear HRow HB9
                obtain ⟨k, hk, rfl, hrow, hb⟩ := hrel
                by_cases hlt : k < 8
                · have hkl : k < (stage X R k).length := by rw [HSn.out k hk]; exact hlt
                  obtain ⟨_, hge, -, -, -, -, hcl, hfr⟩ := hrow.place (by omega)
                  cases hge
                  have ck := hcl k hkl
                  rw [HGt.out k hlt hkl] at ck
                  have fk := hfr k
                  obtain ⟨_, hge, -, cs⟩ := (HSr.out.below hb).at_ (k := k) (by rw [HSl.out]; exact hlt)
                  cases hge
                  have hgs : S[k]'(by rw [HSl.out]; exact hlt) = S.getD k 0 := by simp [List.getD_eq_getElem?_getD, HSl.out, hlt]
                  rw [hgs] at cs
                  have hrs := hrow.set (HSn.out k hk) k (R.getD k 0)
                  rw [HSt.out k hlt] at hrs
                  have hz := HZ.out k hlt
                  have hwr : IntKind.u64.wrap ((X.getD k 0 : Int) + (S.getD k 0 : Int)) = ((R.getD k 0 : Nat) : Int) := by rw [wrap_add, hz, Nat.add_comm]
                  have HRS := Lib.hid hrs
                  have HB10 := Lib.hid (hb.setCell (p := ⟨g10, k, none⟩) hg10 (.int .u64 ((R.getD k 0 : Nat) : Int)))
                  generalize X.getD k 0 = xk at *
                  generalize S.getD k 0 = sk at *
                  generalize R.getD k 0 = rk at *
                  clear hcl hfr hz hgs hrs hrow hkl
                  go_upto_region 24 with (fail)
                  refine Phase.wp_region_phases [([], [0, 1, 2, 3, 4, 5, 6, 7, 8, 9], some 10)] (fun W => W = wr.drew) (by kernel_rfl) (by kernel_rfl) (fun _ _ d _ _ h => by cases d <;> exact h) rfl ?_
                  refine Phase.g_alone rfl (Phase.p_nil ?_)
                  repeat (refine Phase.q_step rfl (fun K hK => ?_); go_simp; refine hK _ ?_; clear hK K)
                  refine Phase.q_nil ?_
                  rintro _ rfl K hK
                  go_simp
                  refine hK _ _ ⟨fun W => W = wr.drew.setCell ⟨g10, k, none⟩ (.int .u64 (rk : Int)), rfl, ?_⟩
                  clear hK K
                  refine Phase.g_nil ?_
                  rintro _ rfl
                  clear ck fk cs hwr
                  go_wp2
                  go_roundw
                  case rel => exact ⟨k + 1, by omega, by go_num, HRS.out, HB10.out.trans ⟨rfl, rfl, rfl, Nat.le_refl _, fun _ _ => rfl⟩⟩
                  case measure => simp [intOf]; omega
                · obtain rfl : k = 8 := by omega
                  rw [HEd.out] at hrow
                  have HRow := Lib.hid hrow
                  have HBz := Lib.hid (HB.out.trans (hb.mono HB.out.size))
                  clear hrow hb
                  go_wp2
                  go_ret
                  exact ⟨_, rfl, by rw [HRb.out]; exact HRow.out.mono HB.out.size, HBz.out⟩
end Go.Proofs.YtmmmogccjopfeaaDoor.WideBlockW
