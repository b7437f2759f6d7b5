/-
  hash.compress: what it hands back. Conditions: in the statement.
-/
import Derived.Test.YtnlhcogmccladaaDoorHashExt
namespace Go.Proofs.YtnlhcogmccladaaDoor.HashCompW
open Go.RowKit BytesW CellsW WordsW ArrW HashM HashX HashTurnW HashRotW HashSched HashExtW

/-- The table of the cube roots. -/
def TabR (w : World) : Prop := ∀ j, j < 64 → w.cell? ⟨2, j, none⟩ = some (.int .u32 ((K.getD j 0 : Nat) : Int))
theorem TabR.below {w w' : World} (h : TabR w) (hb : Below w.heap.size w w') : TabR w' := fun j hj => (hb.cell (World.block_lt_of_cell? _ _ (h j hj))).trans (h j hj)
theorem TabR.grown {w w' : World} {r : Nat} (h : TabR w) (hg : w.grownBy w' (some r)) (hr : 2 ≠ r) : TabR w' := fun j hj => hg.cell (h j hj) (fun e => hr (by cases e; rfl))
theorem TabR.lt {w : World} (h : TabR w) : 2 < w.heap.size := World.block_lt_of_cell? _ _ (h 0 (by decide))

set_option maxHeartbeats 8000000 in
set_option maxRecDepth 100000 in
theorem compress_any (S : List Nat) (hS : Sm S) (A : Option Addr) (l : List UInt8) (c : Nat) (w : World) (hA : Bs w w.heap.size A l) (hl : l.length = 64) (hT : TabR w) :
    Calls Tryd.prog 52 #[.agg (wc S).toArray, .slice A l.length c] w fun e w' => e = .returned (.agg (wc (block S l)).toArray) ∧ Below w.heap.size w w' := by
  obtain ⟨s0, s1, s2, s3, s4, s5, s6, s7, rfl⟩ := eight8 hS.1
  have hts := hT.lt
  have HT := Lib.hid hT
  have HA := Lib.hid hA
  have HS := Lib.hid hS
  clear hT hA hS
  go_enter Tryd.func52, Tryd.ntmps52
  go_upto_region 1 with (fail)
  generalize hW : World.alloc _ _ = W
  obtain ⟨H0, H1, hbw, hsz⟩ := start2 hW
  clear hW
  have a0 : Arr W w.heap.size 59 (wc [s0, s1, s2, s3, s4, s5, s6, s7]) := H0
  have a1 : Arr W (w.heap.size + 1) 59 (wc [0, 0, 0, 0, 0, 0, 0, 0]) := H1
  have he := extend_any A l c W ((HA.out.below hbw).more (by omega)) hl
  have HE := Lib.hid he
  have Ha0 := Lib.hid a0
  have Ha1 := Lib.hid a1
  have Hs := Lib.hid hsz
  have Hbw := Lib.hid hbw
  have Hl := Lib.hid hl
  have HTW := Lib.hid (HT.out.below hbw)
  clear a0 a1 H0 H1 hbw hsz HA he hl HT
  go_wp2_with fail
  refine HE.out.mono ?_
  rintro e w2 ⟨rfl, hb2⟩
  clear HE
  have u64 : Tryd.prog.underlying 89 = some (.array 64 58) := by kernel_rfl
  have i64 : (Tryd.prog.info? 89).map (·.size) = some 64 := by kernel_rfl
  have U64 := Lib.hid u64
  have I64 := Lib.hid i64
  have N1 : Hid ((wc (sched l)).length = 64) := Lib.hid (by rw [wc_length, sched, ext_length])
  have HB2 := Lib.hid hb2
  clear u64 i64 hb2
  go_wp2_with (first | (refine Arr.storeL (Arr.new w2 _ _) rfl 89 (.tmp 5) (.tmp 20) rfl rfl (wc (sched l)) rfl I64.out (by rfl) N1.out (wc_one _) ?_))
  generalize hw3 : World.setRow _ _ _ = w3
  obtain ⟨a2, hb3, hs3⟩ := filled hw3
  clear hw3
  have hg2 := HB2.out.size
  have hsW := Hs.out
  have hb23 : Below W.heap.size W w3 := HB2.out.trans (hb3.mono hg2)
  have ha0 := Ha0.out.below hb23 (by omega)
  have HA0 := Lib.hid ha0
  have HA1 := Lib.hid (Ha1.out.below hb23 (by omega))
  have HTW3 := Lib.hid (HTW.out.below hb23)
  have HBW3 := Lib.hid (Hbw.out.trans (hb23.mono (by omega)))
  have HA2 := Lib.hid a2
  obtain ⟨gx, hgx⟩ : ∃ gx, w2.heap.size = gx := ⟨_, rfl⟩
  rw [hgx] at HA2 hs3 hg2 ⊢
  have hg2' : w.heap.size + 2 ≤ gx := by omega
  have HS3 := Lib.hid hs3
  have c0 : w3.cell? ⟨w.heap.size, 0, none⟩ = some (.int .u32 (s0 : Int)) := ha0.cell 0
  have c1 : w3.cell? ⟨w.heap.size, 1, none⟩ = some (.int .u32 (s1 : Int)) := ha0.cell 1
  have c2 : w3.cell? ⟨w.heap.size, 2, none⟩ = some (.int .u32 (s2 : Int)) := ha0.cell 2
  have c3 : w3.cell? ⟨w.heap.size, 3, none⟩ = some (.int .u32 (s3 : Int)) := ha0.cell 3
  have c4 : w3.cell? ⟨w.heap.size, 4, none⟩ = some (.int .u32 (s4 : Int)) := ha0.cell 4
  have c5 : w3.cell? ⟨w.heap.size, 5, none⟩ = some (.int .u32 (s5 : Int)) := ha0.cell 5
  have c6 : w3.cell? ⟨w.heap.size, 6, none⟩ = some (.int .u32 (s6 : Int)) := ha0.cell 6
  have c7 : w3.cell? ⟨w.heap.size, 7, none⟩ = some (.int .u32 (s7 : Int)) := ha0.cell 7
  have HN64 : Hid ((sched l).length = 64) := Lib.hid (by rw [sched, ext_length])
  have HWlt : Hid (∀ n ∈ sched l, n < 4294967296) := Lib.hid (ext_small 48 l)
  have HBk := Lib.hid (show block [s0, s1, s2, s3, s4, s5, s6, s7] l = List.zipWith (fun x y => (x + y) % 4294967296) [s0, s1, s2, s3, s4, s5, s6, s7] (rn (sched l) ⟨s0, s1, s2, s3, s4, s5, s6, s7⟩ 64).toList from rfl)
  clear a2 hb3 hb23 ha0 hgx hsW hg2 hs3 Ha0 Ha1 HTW Hbw N1 Hl HB2
  generalize sched l = SL at *
  go_wp2
  go_quiet (fail)
  clear c0 c1 c2 c3 c4 c5 c6 c7
  go_wp2
  go_loopw [6, 7, 8, 9, 10, 11, 12, 13, 37] (fun va vb vc vd ve vf vg vh i wr => ∃ (j a b c d e f g h : Nat), j ≤ 64 ∧ i = .int .i64 (j : Int) ∧ rn SL ⟨s0, s1, s2, s3, s4, s5, s6, s7⟩ j = ⟨a, b, c, d, e, f, g, h⟩ ∧ va = .int .u32 (a : Int) ∧ vb = .int .u32 (b : Int) ∧ vc = .int .u32 (c : Int) ∧ vd = .int .u32 (d : Int) ∧ ve = .int .u32 (e : Int) ∧ vf = .int .u32 (f : Int) ∧ vg = .int .u32 (g : Int) ∧ vh = .int .u32 (h : Int) ∧ ∃ n, wr = w3.drewN n) (fun _ _ _ _ _ _ _ _ i _ => 64 - (intOf i).toNat)
  case atStart => exact ⟨0, s0, s1, s2, s3, s4, s5, s6, s7, by omega, rfl, rfl, rfl, rfl, rfl, rfl, rfl, rfl, rfl, rfl, _, rfl⟩
  case round =>
    obtain ⟨j, a, b, c', d, e, f, g, h, hj, rfl, hrn, rfl, rfl, rfl, rfl, rfl, rfl, rfl, rfl, nd, hnd⟩ := hrel
    have hsm := rn_small SL ⟨s0, s1, s2, s3, s4, s5, s6, s7⟩ ⟨HS.out.2 _ (by simp), HS.out.2 _ (by simp), HS.out.2 _ (by simp), HS.out.2 _ (by simp), HS.out.2 _ (by simp), HS.out.2 _ (by simp), HS.out.2 _ (by simp), HS.out.2 _ (by simp)⟩ j
    rw [hrn] at hsm
    obtain ⟨la, lb, lc, ld, le, lf, lg, lh⟩ := hsm
    simp only at la lb lc ld le lf lg lh
    have HRn := Lib.hid hrn
    have HTr : Hid (TabR wr) := Lib.hid (by rw [hnd]; exact HTW3.out)
    have HAr2 : Hid (Arr wr gx 89 (wc SL)) := Lib.hid (by rw [hnd]; exact HA2.out)
    have HNd := Lib.hid hnd
    clear hrn hnd
    by_cases hlt : j < 64
    · have ck := HTr.out j hlt
      have hjl : j < SL.length := by rw [HN64.out]; exact hlt
      have cw := HAr2.out.cell j
      rw [wc_getD SL j hjl] at cw
      have HNew : Hid (rn SL ⟨s0, s1, s2, s3, s4, s5, s6, s7⟩ (j + 1) = rnd (K.getD j 0) (SL.getD j 0) ⟨a, b, c', d, e, f, g, h⟩) := Lib.hid (by rw [rn, HRn.out])
      generalize SL.getD j 0 = wj at *
      generalize K.getD j 0 = kj at *
      have C6 := Lib.hid (rotr_in wr 6 e 6 rfl (by decide) (by decide) le)
      have C11 := Lib.hid (rotr_in wr 11 e 11 rfl (by decide) (by decide) le)
      have C25 := Lib.hid (rotr_in wr 25 e 25 rfl (by decide) (by decide) le)
      have C2 := Lib.hid (fun w => rotr_any 2 a 2 rfl (by decide) (by decide) la w)
      have C13 := Lib.hid (fun w => rotr_any 13 a 13 rfl (by decide) (by decide) la w)
      have C22 := Lib.hid (fun w => rotr_any 22 a 22 rfl (by decide) (by decide) la w)
      obtain ⟨r1, hr1, x1⟩ : ∃ r, r = rot 6 e ^^^ rot 11 e ∧ bits .xor .u32 (rot 6 e : Int) (rot 11 e : Int) = (r : Int) := ⟨_, rfl, Bits.xor_u32 _ _ (rot_lt 6 e (by decide) le) (rot_lt 11 e (by decide) le)⟩
      have lr1 : r1 < 4294967296 := by rw [hr1]; exact xor_small _ _ (rot_lt 6 e (by decide) le) (rot_lt 11 e (by decide) le)
      obtain ⟨r2, hr2, x2⟩ : ∃ r, r = bs1 e ∧ bits .xor .u32 (r1 : Int) (rot 25 e : Int) = (r : Int) := ⟨_, rfl, by rw [Bits.xor_u32 _ _ lr1 (rot_lt 25 e (by decide) le), hr1]; rfl⟩
      obtain ⟨r3, hr3, x3⟩ : ∃ r, r = rot 2 a ^^^ rot 13 a ∧ bits .xor .u32 (rot 2 a : Int) (rot 13 a : Int) = (r : Int) := ⟨_, rfl, Bits.xor_u32 _ _ (rot_lt 2 a (by decide) la) (rot_lt 13 a (by decide) la)⟩
      have lr3 : r3 < 4294967296 := by rw [hr3]; exact xor_small _ _ (rot_lt 2 a (by decide) la) (rot_lt 13 a (by decide) la)
      obtain ⟨r4, hr4, x4⟩ : ∃ r, r = bs0 a ∧ bits .xor .u32 (r3 : Int) (rot 22 a : Int) = (r : Int) := ⟨_, rfl, by rw [Bits.xor_u32 _ _ lr3 (rot_lt 22 a (by decide) la), hr3]; rfl⟩
      obtain ⟨f1, hf1, z1⟩ : ∃ r, r = e &&& f ∧ bits .and .u32 (e : Int) (f : Int) = (r : Int) := ⟨_, rfl, Bits.and_u32 _ _ le lf⟩
      have lf1 : f1 < 4294967296 := by rw [hf1]; exact Nat.and_lt_two_pow (n := 32) _ lf
      obtain ⟨ne, hne, z2⟩ : ∃ r, r = 4294967295 - e ∧ bits .xor .u32 (if IntKind.u32.signed = true then -1 else IntKind.u32.max) (e : Int) = (r : Int) := ⟨_, rfl, by rw [← not_max e le]; exact Bits.xor_u32 4294967295 e (by decide) le⟩
      have lne : ne < 4294967296 := by omega
      obtain ⟨f2, hf2, z3⟩ : ∃ r, r = ne &&& g ∧ bits .and .u32 (ne : Int) (g : Int) = (r : Int) := ⟨_, rfl, Bits.and_u32 _ _ lne lg⟩
      have lf2 : f2 < 4294967296 := by rw [hf2]; exact Nat.and_lt_two_pow (n := 32) _ lg
      obtain ⟨p, hp, z4⟩ : ∃ r, r = ch e f g ∧ bits .xor .u32 (f1 : Int) (f2 : Int) = (r : Int) := ⟨_, rfl, by rw [Bits.xor_u32 _ _ lf1 lf2, hf1, hf2, hne]; rfl⟩
      obtain ⟨g1, hg1, z5⟩ : ∃ r, r = a &&& b ∧ bits .and .u32 (a : Int) (b : Int) = (r : Int) := ⟨_, rfl, Bits.and_u32 _ _ la lb⟩
      obtain ⟨g2, hg2, z6⟩ : ∃ r, r = a &&& c' ∧ bits .and .u32 (a : Int) (c' : Int) = (r : Int) := ⟨_, rfl, Bits.and_u32 _ _ la lc⟩
      obtain ⟨g3, hg3, z7⟩ : ∃ r, r = b &&& c' ∧ bits .and .u32 (b : Int) (c' : Int) = (r : Int) := ⟨_, rfl, Bits.and_u32 _ _ lb lc⟩
      have lg1 : g1 < 4294967296 := by rw [hg1]; exact Nat.and_lt_two_pow (n := 32) _ lb
      have lg2 : g2 < 4294967296 := by rw [hg2]; exact Nat.and_lt_two_pow (n := 32) _ lc
      have lg3 : g3 < 4294967296 := by rw [hg3]; exact Nat.and_lt_two_pow (n := 32) _ lc
      obtain ⟨g4, hg4, z8⟩ : ∃ r, r = g1 ^^^ g2 ∧ bits .xor .u32 (g1 : Int) (g2 : Int) = (r : Int) := ⟨_, rfl, Bits.xor_u32 _ _ lg1 lg2⟩
      have lg4 : g4 < 4294967296 := by rw [hg4]; exact xor_small _ _ lg1 lg2
      obtain ⟨q, hq, z9⟩ : ∃ r, r = maj a b c' ∧ bits .xor .u32 (g4 : Int) (g3 : Int) = (r : Int) := ⟨_, rfl, by rw [Bits.xor_u32 _ _ lg4 lg3, hg4, hg1, hg2, hg3]; rfl⟩
      obtain ⟨m1, hm1, y1⟩ : ∃ m, m = (h + r2) % 4294967296 ∧ IntKind.u32.wrap ((h : Int) + (r2 : Int)) = (m : Int) := ⟨_, rfl, wrapn_add _ _⟩
      obtain ⟨m2, hm2, y2⟩ : ∃ m, m = (m1 + p) % 4294967296 ∧ IntKind.u32.wrap ((m1 : Int) + (p : Int)) = (m : Int) := ⟨_, rfl, wrapn_add _ _⟩
      obtain ⟨m3, hm3, y3⟩ : ∃ m, m = (m2 + kj) % 4294967296 ∧ IntKind.u32.wrap ((m2 : Int) + (kj : Int)) = (m : Int) := ⟨_, rfl, wrapn_add _ _⟩
      obtain ⟨m4, hm4, y4⟩ : ∃ m, m = t1 kj wj ⟨a, b, c', d, e, f, g, h⟩ ∧ IntKind.u32.wrap ((m3 : Int) + (wj : Int)) = (m : Int) := ⟨_, rfl, by rw [wrapn_add, hm3, hm2, hm1, hr2, hp]; unfold t1; simp only; omega⟩
      obtain ⟨m5, hm5, y5⟩ : ∃ m, m = t2 ⟨a, b, c', d, e, f, g, h⟩ ∧ ((r4 : Int) + (q : Int)) % 4294967296 = (m : Int) := ⟨_, rfl, by rw [hr4, hq]; unfold t2; simp only; omega⟩
      obtain ⟨m6, hm6, y6⟩ : ∃ m, m = (d + m4) % 4294967296 ∧ ((d : Int) + (m4 : Int)) % 4294967296 = (m : Int) := ⟨_, rfl, by omega⟩
      obtain ⟨m7, hm7, y7⟩ : ∃ m, m = (m4 + m5) % 4294967296 ∧ ((m4 : Int) + (m5 : Int)) % 4294967296 = (m : Int) := ⟨_, rfl, by omega⟩
      have HN2 : Hid (rn SL ⟨s0, s1, s2, s3, s4, s5, s6, s7⟩ (j + 1) = ⟨m7, a, b, c', m6, e, f, g⟩) := Lib.hid (by rw [HNew.out, rnd, ← hm4, ← hm5, ← hm6, ← hm7])
      have lm4 : m4 < 4294967296 := by rw [hm4]; exact Nat.mod_lt _ (by decide)
      have lm5 : m5 < 4294967296 := by rw [hm5]; exact Nat.mod_lt _ (by decide)
      have ct : decide ((j : Int) < 64) = true := decide_eq_true (by omega)
      clear hr1 hr2 hr3 hr4 hm1 hm2 hm3 hm4 hm5 hm6 hm7 hp hq lr1 lr3 HNew hf1 hne hf2 hg1 hg2 hg3 hg4 lf1 lne lf2 lg1 lg2 lg3 lg4 HTr HAr2
      go_wp2
      go_quiet (first | (with_reducible exact C6.out _) | (with_reducible exact C11.out _) | (with_reducible exact C25.out _))
      clear C6 C11 C25 x1 x2 y1 y2 y3 y4 ck cw z1 z2 z3 z4
      go_wp2_with fail
      refine (C2.out _).mono ?_
      rintro _ _ ⟨rfl, rfl⟩
      go_wp2_with fail
      refine (C13.out _).mono ?_
      rintro _ _ ⟨rfl, rfl⟩
      go_wp2_with fail
      refine (C22.out _).mono ?_
      rintro _ _ ⟨rfl, rfl⟩
      clear C2 C13 C22
      go_wp2
      go_roundw
      case rel => exact ⟨j + 1, m7, a, b, c', m6, e, f, g, by omega, by go_num, HN2.out, by first | rfl | exact congrArg _ y7, rfl, rfl, rfl, by first | rfl | exact congrArg _ y6, rfl, rfl, rfl, nd + nq, by rw [HNd.out, World.drewN_drewN]⟩
      case measure => simp [intOf]; omega
    · obtain rfl : j = 64 := by omega
      have hwr := HNd.out
      have ha0 : Arr wr w.heap.size 59 (wc [s0, s1, s2, s3, s4, s5, s6, s7]) := by rw [hwr]; exact HA0.out
      have HA1r : Hid (Arr wr (w.heap.size + 1) 59 (wc [0, 0, 0, 0, 0, 0, 0, 0])) := Lib.hid (by rw [hwr]; exact HA1.out)
      have HBr : Hid (Below w.heap.size w wr) := Lib.hid (by rw [hwr]; exact HBW3.out.trans (belowN _ _ _))
      have HRn64 : Hid (rn SL ⟨s0, s1, s2, s3, s4, s5, s6, s7⟩ 64 = ⟨a, b, c', d, e, f, g, h⟩) := HRn
      have HB : Hid (block [s0, s1, s2, s3, s4, s5, s6, s7] l = List.zipWith (fun x y => (x + y) % 4294967296) [s0, s1, s2, s3, s4, s5, s6, s7] [a, b, c', d, e, f, g, h]) := Lib.hid (by rw [HBk.out, HRn64.out]; rfl)
      clear hwr hlt HAr2 HTr HRn HRn64 HBk HA0 HA1 HBW3 HTW3 HA2 HWlt HN64 hj
      obtain ⟨x, hx⟩ : ∃ x, x = [a, b, c', d, e, f, g, h] := ⟨_, rfl⟩
      obtain ⟨o, ho⟩ : ∃ o, o = [s0, s1, s2, s3, s4, s5, s6, s7] := ⟨_, rfl⟩
      obtain ⟨r, hr⟩ : ∃ r, r = List.zipWith (fun x y => (x + y) % 4294967296) o x := ⟨_, rfl⟩
      have hxl : x.length = 8 := by rw [hx]; rfl
      have hol : o.length = 8 := by rw [ho]; rfl
      have hrl : r.length = 8 := by rw [hr, List.length_zipWith, hol, hxl]; rfl
      have HZ := Lib.hid (fun k hk => zip_at o x k hol hxl hk)
      rw [← hr] at HZ
      have HSt := Lib.hid (fun k hk => mid_set o r k hol hrl hk)
      have HGt := Lib.hid (fun k hk => mid_get o r k hol hrl hk)
      have HEnd := Lib.hid (mid_end o r hol hrl)
      have HXk : Hid (∀ k, k < 8 → (wc x)[k]? = some (.int .u32 ((x.getD k 0 : Nat) : Int))) := Lib.hid (fun k hk => wc_getD x k (by omega))
      have HXe : Hid ((wc x).toArray = #[.int .u32 (a : Int), .int .u32 (b : Int), .int .u32 (c' : Int), .int .u32 (d : Int), .int .u32 (e : Int), .int .u32 (f : Int), .int .u32 (g : Int), .int .u32 (h : Int)]) := Lib.hid (by rw [hx]; rfl)
      have HRl := Lib.hid hrl
      have HXl := Lib.hid hxl
      have HBr2 : Hid (block [s0, s1, s2, s3, s4, s5, s6, s7] l = r) := Lib.hid (by rw [HB.out, hr, ho, hx])
      rw [← ho, show o = mid o r 0 from by simp [mid]] at ha0
      have HA0 := Lib.hid ha0
      have ct : decide ((64 : Int) < 64) = false := rfl
      have u8 : Tryd.prog.underlying 59 = some (.array 8 58) := by kernel_rfl
      have U8 := Lib.hid u8
      clear u8 hx ho hr hxl hol hrl ha0 HB la lb lc ld le lf lg lh
      simp only [show ((64 : Nat) : Int) = 64 from rfl]
      go_wp2
      rw [← HXe.out]
      go_loopw [109] (fun i wr' => ∃ k : Nat, k ≤ 8 ∧ i = .int .i64 (k : Int) ∧ Arr wr' w.heap.size 59 (wc (mid o r k)) ∧ wr.grownBy wr' (some w.heap.size)) (fun i _ => 8 - (intOf i).toNat)
      case atStart => exact ⟨0, by omega, rfl, HA0.out, grownRefl _ _⟩
      case round =>
        obtain ⟨k, hk, rfl, a0, hg⟩ := hrel
        by_cases hlt : k < 8
        · have c1 := a0.cell k
          rw [HGt.out k hlt] at c1
          have f1 := a0.frozen k
          have hix : (Instr.index 59 (.agg (wc x).toArray) (.int .i64 (k : Int))).run Tryd.prog wr = .ok (.int .u32 ((x.getD k 0 : Nat) : Int)) wr := run_index_arr wr _ 58 8 _ k _ _ U8.out Tryd.underlying58 rfl (by kernel_rfl) hlt (by have := HXk.out k hlt; simpa using this)
          have hz := HZ.out k hlt
          have hst := HSt.out k hlt
          have hxl := HXl.out
          generalize o.getD k 0 = ok at *
          generalize x.getD k 0 = xk at *
          generalize r.getD k 0 = rk at *
          have hsum : ((ok : Int) + (xk : Int)) % 4294967296 = (rk : Int) := by omega
          have b0 := a0.set k (.int .u32 (rk : Int))
          rw [hst] at b0
          have B0 := Lib.hid b0
          clear a0 hz hst b0
          go_wp2
          go_roundw
          case rel => exact ⟨k + 1, by omega, by go_num, B0.out, grownTrans hg (grownSet _ _ _ _)⟩
          case measure => simp [intOf]; omega
        · obtain rfl : k = 8 := by omega
          rw [HEnd.out] at a0
          have ct8 : decide ((8 : Int) < 8) = false := rfl
          have i8 : (Tryd.prog.info? 59).map (·.size) = some 8 := by kernel_rfl
          have I8 := Lib.hid i8
          have A0 := Lib.hid a0
          have A1 := Lib.hid (arr_grown HA1r.out hg (by omega))
          have N8 : Hid ((wc r).length = 8) := Lib.hid (by rw [wc_length]; exact HRl.out)
          have HBF := Lib.hid (below_row (HBr.out.trans (grownBelow hg (by omega) HBr.out.size)) (show w.heap.size ≤ w.heap.size + 1 by omega) (wc r).toArray)
          have AF := Lib.hid (A1.out.row (wc r))
          clear a0 hg i8 HZ HSt HGt HXk hlt HA0 HA1r
          simp only [show ((8 : Nat) : Int) = 8 from rfl]
          go_wp2_with (first | (refine Arr.loadL A0.out rfl 59 (.tmp 2) rfl rfl U8.out rfl I8.out N8.out ?_) | (refine Arr.storeL A1.out rfl 59 (.tmp 4) (.tmp 120) rfl rfl (wc r) rfl I8.out (by rfl) N8.out (wc_one r) ?_))
          refine bodyPost_ret (v := .agg (wc r).toArray) (by exact AF.out.ret rfl _ rfl U8.out rfl I8.out N8.out) rfl ⟨by rw [HBr2.out], HBF.out⟩
end Go.Proofs.YtnlhcogmccladaaDoor.HashCompW
