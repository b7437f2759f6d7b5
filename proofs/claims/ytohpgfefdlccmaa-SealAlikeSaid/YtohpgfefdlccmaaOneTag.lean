/-
  onetime.tag: what it hands back. Conditions: a key of 32 bytes, a length that fits.
-/
import Derived.Test.YtohpgfefdlccmaaOneChunk
import Derived.Test.YtohpgfefdlccmaaKd
import Derived.Shelf.Abstract
namespace Go.Proofs.Ytohpgfefdlccmaa.OneWW
open Go.RowKit Go.Shelf BytesW ArrW ArrG ArrL OneM OneN OneR OneA16 RoundW

theorem own_arr {β : Type} {B t : Nat} {T : TypeId} (f : β → List Value) : OwnFrom B (fun (s : β) W => Arr W t T (f s)) := by
  intro s W W' row hs hg hr
  refine (hg.block t hs.lt (fun e => ?_)).trans hs
  obtain ⟨_, o, ho, hc⟩ := hr t e.symm
  unfold Arr at hs
  rw [hs] at ho
  cases ho
  cases hc
theorem own_grown {β : Type} {w5 : World} {t : Nat} : OwnFrom w5.heap.size (fun (_ : β) W => w5.grownBy W (some t)) := by
  intro s W W' row hs hg hr
  refine ⟨hg.os.trans hs.os, hg.tape.trans hs.tape, hg.output.trans hs.output, Nat.le_trans hs.size hg.size, fun i hi hne => ?_⟩
  refine (hg.block i (Nat.lt_of_lt_of_le hi hs.size) (fun e => ?_)).trans (hs.block i hi hne)
  have := (hr i e.symm).1
  omega
theorem kc_b {gs gn B : Nat} (h1 : gs < B) (h2 : gn < B) (W : World) (l : Nat) (o' : Obj) (hl : B ≤ l) : Kc gs gn W (W.putObj l o') :=
  ⟨World.cell?_of_block (World.putObj_heap_other (by show gs ≠ l; omega)), World.cell?_of_block (World.putObj_heap_other (by show gn ≠ l; omega))⟩
/-- The sum so far. -/
def sofar (r : Nat) (b : List UInt8) (pre : List (Ix b)) : List Value := nc (wd (accT r b (pre.map Subtype.val)) 3)

set_option maxHeartbeats 8000000 in
set_option maxRecDepth 100000 in
theorem tag_any (A : Option Addr) (key : List UInt8) (c : Nat) (A' : Option Addr) (b : List UInt8) (c' : Nat) (w : World) (hA : Bs w w.heap.size A key) (hc : key.length ≤ c) (h32 : key.length = 32) (hB : Bs w w.heap.size A' b) (hc' : b.length ≤ c') (hb : b.length ≤ 140737488351232) :
    Calls Try.prog 29 #[.slice A 32 c, .slice A' b.length c'] w fun e w' => e = .returned (.agg (Lib.byteCells (tagS key b)).toArray) ∧ Below w.heap.size w w' := by
  obtain ⟨ad, rfl⟩ : ∃ ad, A = some ad := by
    obtain ⟨ad, h, _, _⟩ := hA.at_ (k := 0) (by omega)
    exact ⟨ad, h⟩
  have HA := Lib.hid hA
  have HB := Lib.hid hB
  have HK := Lib.hid h32
  have HA0 := Lib.hid hA
  have HB0 := Lib.hid hB
  have hc32 : 32 ≤ c := by omega
  clear hA hB h32 hc
  refine (callsIn_wide (n := 5)).1 ?_
  refine callsIn_of_wp_marks Try.func29 rfl trivial ?_ rfl
  refine wpIn_wide.2 ?_
  simp only [Try.ntmps29, List.size_toArray, List.length_cons, List.length_nil, Nat.reduceAdd, Nat.reduceSub, Array.replicate_succ, Array.replicate_zero, List.push_toArray, List.append_toArray, List.nil_append, List.cons_append]
  go_upto_region 1 with (fail)
  generalize hW : World.alloc _ _ = W
  obtain ⟨H0, hbw, hsz⟩ := start1 hW
  clear hW
  have A0 : Hid (Arr W w.heap.size 33 (Lib.byteCells (List.replicate 16 0))) := Lib.hid H0
  have HA1 := Lib.hid ((HA.out.below hbw).more (show w.heap.size ≤ W.heap.size by omega))
  have HB1 := Lib.hid ((HB.out.below hbw).more (show w.heap.size ≤ W.heap.size by omega))
  have hr := read_any (some ad) (key.take 16) c W (HA1.out.take 16) (by rw [List.length_take]; omega)
  rw [List.length_take, HK.out] at hr
  have HR : Hid (Calls Try.prog 38 #[.slice (some ad) 16 c] W fun e w' => e = .returned (.agg (nc (wd (lev (key.take 16)) 3)).toArray) ∧ Below W.heap.size W w') := Lib.hid hr
  obtain ⟨g, hg⟩ : ∃ g, w.heap.size = g := ⟨_, rfl⟩
  have HBw : Hid (Below g w W) := Lib.hid (by rw [← hg]; exact hbw)
  have HSZ : Hid (W.heap.size = g + 1) := Lib.hid (by rw [← hg]; exact hsz)
  have HG := Lib.hid hg
  rw [hg] at A0
  simp only [hg]
  clear H0 hbw hsz hg hr HA HB
  go_wp2_with fail
  refine HR.out.mono ?_
  clear HR
  rintro e w1 ⟨rfl, b1⟩
  have A01 := Lib.hid (A0.out.below b1 A0.out.lt)
  have HA2 := Lib.hid ((HA1.out.below b1).more b1.size)
  have HB2 := Lib.hid ((HB1.out.below b1).more b1.size)
  have HBw1 := Lib.hid (HBw.out.trans (b1.mono (show g ≤ W.heap.size by have := HSZ.out; omega)))
  have HZ1 := Lib.hid (show g + 1 ≤ w1.heap.size by have := HSZ.out; have := b1.size; omega)
  have HT := Lib.hid (trim_any key (by have := HK.out; omega) w1)
  clear b1 A0 HA1 HB1 HBw HSZ
  go_wp2_with fail
  refine HT.out.mono ?_
  clear HT
  rintro e w2 ⟨rfl, b2⟩
  have A02 := Lib.hid (A01.out.below b2 A01.out.lt)
  have HA3 := Lib.hid ((HA2.out.below b2).more b2.size)
  have HB3 := Lib.hid ((HB2.out.below b2).more b2.size)
  have HBw2 := Lib.hid (HBw1.out.trans (b2.mono (show g ≤ w1.heap.size by have := HZ1.out; omega)))
  have HZ2 := Lib.hid (show g + 1 ≤ w2.heap.size by have := HZ1.out; have := b2.size; omega)
  have HRl := Lib.hid (clamp_lt key (by have := HK.out; omega))
  have HTW := Lib.hid (tag_words key b)
  obtain ⟨r, hr⟩ : ∃ r, lev (clamp key) = r := ⟨_, rfl⟩
  rw [hr] at HRl HTW
  simp only [hr]
  clear b2 A01 HA2 HB2 HBw1 HZ1 hr
  go_upto_region 2 with (show wpList _ _ _ (⟨_, Op.store _ _ _, _, _, _, _⟩ :: _) _ _; refine Arr.storeL (Arr.new w2 _ _) rfl 63 (.tmp 5) (.tmp 11) rfl rfl (nc (wd r 3)) rfl num_size (by rfl) (wd3 _) (nc_one _) ?_)
  generalize hw3 : World.setRow _ _ _ = w3
  obtain ⟨a3, b3, z3⟩ := filled hw3
  have A03 := Lib.hid (A02.out.below b3 A02.out.lt)
  have HA4 := Lib.hid ((HA3.out.below b3).more b3.size)
  have HB4 := Lib.hid ((HB3.out.below b3).more b3.size)
  have HBw3 := Lib.hid (HBw2.out.trans (b3.mono (show g ≤ w2.heap.size by have := HZ2.out; omega)))
  obtain ⟨gF, hgF⟩ : ∃ p, w2.heap.size = p := ⟨_, rfl⟩
  have HZF := Lib.hid (show g + 1 ≤ gF by rw [← hgF]; exact HZ2.out)
  rw [hgF] at a3 z3
  simp only [hgF]
  have AF3 := Lib.hid a3
  have HZ3 : Hid (w3.heap.size = gF + 1) := Lib.hid z3
  clear a3 b3 z3 hw3 A02 HA3 HB3 HBw2 HZ2 hgF
  go_upto_region 3 with (fail)
  generalize hw4 : World.alloc _ _ = w4
  obtain ⟨a4, b4, z4⟩ := start1 hw4
  rw [HZ3.out] at a4 z4
  simp only [HZ3.out]
  have AT4 : Hid (Arr w4 (gF + 1) 63 (nc (wd 0 3))) := Lib.hid a4
  have AF4 := Lib.hid (AF3.out.below b4 AF3.out.lt)
  have A04 := Lib.hid (A03.out.below b4 A03.out.lt)
  have HA5 := Lib.hid ((HA4.out.below b4).more b4.size)
  have HB5 := Lib.hid ((HB4.out.below b4).more b4.size)
  have HBw4 := Lib.hid (HBw3.out.trans (b4.mono (show g ≤ w3.heap.size by have := HZ3.out; have := HZF.out; omega)))
  have HZ4 : Hid (w4.heap.size = gF + 2) := Lib.hid z4
  have HCh := Lib.hid (chunk_any A' b.length c' w4)
  clear a4 b4 z4 hw4 AF3 A03 HA4 HB4 HBw3 HZ3
  go_wp2_with fail
  refine HCh.out.mono ?_
  clear HCh
  rintro e w5 ⟨rfl, hw5⟩
  obtain ⟨B1, B2, b5, z5⟩ := start2 hw5.symm
  have AT5 := Lib.hid (AT4.out.below b5 AT4.out.lt)
  have AF5 := Lib.hid (AF4.out.below b5 AF4.out.lt)
  have A05 := Lib.hid (A04.out.below b5 A04.out.lt)
  have HA6 := Lib.hid ((HA5.out.below b5).more b5.size)
  have HB6 := Lib.hid ((HB5.out.below b5).more b5.size)
  have HBw5 := Lib.hid (HBw4.out.trans (b5.mono (show g ≤ w4.heap.size by have := HZ4.out; have := HZF.out; omega)))
  rw [HZ4.out] at B1 B2 z5
  simp only [HZ4.out]
  have CS := Lib.hid (B1.cell 0)
  have CN := Lib.hid (B2.cell 0)
  have HZ5 : Hid (w5.heap.size = gF + 4) := Lib.hid z5
  clear B1 B2 b5 z5 hw5 AT4 AF4 A04 HA5 HB5 HBw4 HZ4
  have HAx : 0 < b.length → ∃ ad, A' = some ad := fun h => by obtain ⟨ad, h, _, _⟩ := HB6.out.at_ h; exact ⟨ad, h⟩
  have AT0 := Lib.hid (show Arr w5 (gF + 1) 63 (sofar r b []) from AT5.out)
  go_wp2
  refine (wpIn_wide (n := 5)).1 ?_
  refine wpIn_rangeFunc_ownG rfl (by decide) (gf := 51) (lb := #[.pointer (some ⟨gF + 2, 0, none⟩), .pointer (some ⟨gF + 2 + 1, 0, none⟩)]) rfl trivial (enters_of Try.func51 (by kernel_rfl) rfl)
    (chunk_stops 4 A' b c' hb hc' HAx (gF + 2) (gF + 2 + 1) w5 CS.out CN.out (by have := HZ5.out; omega) (by have := HZ5.out; omega)) (fun h k => ⟨k.1.trans h.1, k.2.trans h.2⟩)
    (fun W l _ o' hl _ _ _ => kc_b (B := w5.heap.size) (by have := HZ5.out; omega) (by have := HZ5.out; omega) W l o' hl) (Below.refl _ _) (fun _ => rfl)
    (fun pre W => Arr W (gF + 1) 63 (sofar r b pre) ∧ w5.grownBy W (some (gF + 1)))
    (fun _ _ _ => False)
    (OwnFrom.and (own_arr (sofar r b)) own_grown)
    (fun _ _ _ _ _ hs _ _ => hs)
    ⟨AT0.out, grownRefl _ _⟩
    (fun x => { tmps := #[.slice (some ad) 32 c, .slice A' b.length c', undef, undef, .pointer (some ⟨g, 0, none⟩), .pointer (some ⟨gF, 0, none⟩), .pointer (some ⟨gF + 1, 0, none⟩), .slice (A'.map (·.add (16 * x.1))) (min 16 (b.length - 16 * x.1)) (min 16 (b.length - 16 * x.1)), .slice (some ad) 32 c, .slice (some ad) 16 c, .agg (nc (wd (lev (List.take 16 key)) 3)).toArray, .agg (nc (wd r 3)).toArray, .slice A' b.length c', .func (.func 51) #[] #[.pointer (some ⟨gF + 2, 0, none⟩), .pointer (some ⟨gF + 2 + 1, 0, none⟩)], .slice (A'.map (·.add (16 * x.1))) (min 16 (b.length - 16 * x.1)) (min 16 (b.length - 16 * x.1)), undef, undef, undef, undef, undef, undef, undef, undef, undef, undef, undef, undef, undef, undef], defers := [] }) ?assign ?body ?done ?stop
  case assign =>
    intro l x W K hK
    dsimp only [piece]
    refine wpIn_region_lex (ro := some l) (by decide) (by rintro ⟨_, _, h⟩; exact h) ?_
    go_wp2
    exact hK
  case body =>
    rintro l pre x W ⟨hT, hG⟩ _
    obtain ⟨T, hTe⟩ : ∃ T, accT r b (pre.map Subtype.val) = T := ⟨_, rfl⟩
    have hTo := accT_tot r b HRl.out (pre.map Subtype.val)
    have hnx : accT r b ((pre ++ [x]).map Subtype.val) = OneN.stepT r T (OneN.blk b x.1) := by rw [List.map_append, List.map_singleton, accT_snoc, hTe]
    have hT2 : Arr W (gF + 1) 63 (nc (wd T 3)) := by rw [← hTe]; exact hT
    rw [hTe] at hTo
    have HTa := Lib.hid hT2
    have HGr := Lib.hid hG
    have HNx := Lib.hid hnx
    have HFa := Lib.hid (arr_grown AF5.out hG (by omega))
    have hle := hG.size
    have HSz := Lib.hid hle
    have hgl : g ≤ w5.heap.size := by have := HZ5.out; have := HZF.out; omega
    have hbs : Bs W W.heap.size A' b := ((bs_grown (B := g) (by rw [← HG.out]; exact HB0.out.below (by rw [HG.out]; exact HBw5.out)) hG (by have := HZF.out; omega) hgl).more (Nat.le_trans hgl hle))
    have hbk : Bs W W.heap.size (A'.map (·.add (16 * x.1))) (OneN.blk b x.1) := (hbs.drop (16 * x.1)).take 16
    have hml : (OneN.blk b x.1).length = min 16 (b.length - 16 * x.1) := by unfold OneN.blk; rw [List.length_take, List.length_drop]
    have h16 := blk_len b x.1
    have HBk := Lib.hid hbk
    obtain ⟨bk, hbke⟩ : ∃ z, OneN.blk b x.1 = z := ⟨_, rfl⟩
    obtain ⟨Ax, hAx⟩ : ∃ z, A'.map (·.add (16 * x.1)) = z := ⟨_, rfl⟩
    obtain ⟨m, hm⟩ : ∃ z, min 16 (b.length - 16 * x.1) = z := ⟨_, rfl⟩
    rw [hbke, hAx] at HBk
    rw [hbke] at HNx hml h16
    rw [hm] at hml
    simp only [hAx, hm]
    have HMk : ∀ V, Below W.heap.size W V → Calls Try.prog 43 #[.slice Ax m m] V fun e w' => e = .returned (.agg (nc (wd (lev (bk ++ [1])) 3)).toArray) ∧ Below W.heap.size W w' := fun V hV => by
      rw [← hml]
      exact (mark_any Ax bk bk.length V ((HBk.out.below hV).more hV.size) h16).mono fun e w' ⟨he, hb⟩ => ⟨he, hV.trans (hb.mono hV.size)⟩
    have hsl := sum_lt T bk hTo h16
    have hpr := prod_lt r T bk HRl.out hTo h16
    have hto := stepT_tot r T bk HRl.out hTo h16
    obtain ⟨mk, hmk⟩ : ∃ z, lev (bk ++ [1]) = z := ⟨_, rfl⟩
    have hst : OneN.stepT r T bk = red ((T + mk) * r) := by unfold OneN.stepT; rw [hmk]
    rw [hmk] at HMk hsl hpr
    rw [hst] at HNx
    obtain ⟨sm, hsm⟩ : ∃ z, T + mk = z := ⟨_, rfl⟩
    obtain ⟨pd, hpd⟩ : ∃ z, sm * r = z := ⟨_, rfl⟩
    rw [hsm] at hsl hpr HNx
    rw [hpd] at hpr HNx
    have hrl : r < 18446744073709551616 ^ 3 := Nat.lt_of_lt_of_le HRl.out (by decide)
    have hsl3 : sm < 18446744073709551616 ^ 3 := Nat.lt_of_lt_of_le hsl (by decide)
    have HAd : ∀ V, Below W.heap.size W V → Calls Try.prog 42 #[.agg (nc (wd T 3)).toArray, .agg (nc (wd mk 3)).toArray] V fun e w' => e = .returned (.agg (nc (wd sm 3)).toArray) ∧ Below W.heap.size W w' := fun V hV => by
      rw [← hsm]
      exact (add_any T mk V).mono fun e w' ⟨he, hb⟩ => ⟨he, hV.trans (hb.mono hV.size)⟩
    have HMu : ∀ V, Below W.heap.size W V → Calls Try.prog 41 #[.agg (nc (wd sm 3)).toArray, .agg (nc (wd r 3)).toArray] V fun e w' => e = .returned (.agg (nc (wd pd 6)).toArray) ∧ Below W.heap.size W w' := fun V hV => by
      rw [← hpd]
      exact (mul_any sm r hsl3 hrl V).mono fun e w' ⟨he, hb⟩ => ⟨he, hV.trans (hb.mono hV.size)⟩
    have HRe : ∀ V, Below W.heap.size W V → Calls Try.prog 40 #[.agg (nc (wd pd 6)).toArray] V fun e w' => e = .returned (.agg (nc (wd (red pd) 3)).toArray) ∧ Below W.heap.size W w' := fun V hV =>
      (reduce_any pd hpr V).mono fun e w' ⟨he, hb⟩ => ⟨he, hV.trans (hb.mono hV.size)⟩
    have HMk' := Lib.hid HMk
    have HAd' := Lib.hid HAd
    have HMu' := Lib.hid HMu
    have HRe' := Lib.hid HRe
    have hab := ab W
    clear hT hG hnx hT2 hTo hTe hle hbs hbk hml h16 hbke hAx hm HMk HAd HMu HRe hsl hpr hto hmk hst hsm hpd hrl hsl3 hgl
    refine wpIn_block ?_
    refine wpIn_region_phases (ro := some l) [([1], [0, 2, 3, 4, 5, 6], some 7)] (fun V => ∃ x : Ab W, V = x.val) (by kernel_rfl) (by kernel_rfl) (by decide) (by rintro ⟨_, _, h⟩; exact h) (fun _ _ d _ _ h => by cases d <;> exact h) (Cl.of (Below.refl _ _).drew) ?_
    refine Phase.g_alone rfl ?_
    refine Phase.p_step rfl (fun K hK => ?_); go_simp; refine hK _ ?_; clear hK K
    refine Phase.p_nil ?_
    refine Phase.q_step rfl (fun K hK => want rfl ?_)
    refine Arr.loadQ (fun V (h : ∃ x : Ab W, V = x.val) => HTa.out.below (Cl.below h) HTa.out.lt) 63 (.tmp 6) rfl rfl num_u rfl num_size (wd3 _) ?_
    refine hK _ ?_
    clear hK K
    refine Phase.q_step rfl (fun K hK => ?_); go_simp; apply Exists.intro; refine ⟨fun x => ?_, hK _ ?_⟩; (exact call_cl HMk'.out x); clear hK K
    refine Phase.q_step rfl (fun K hK => ?_); go_simp; apply Exists.intro; refine ⟨fun x => ?_, hK _ ?_⟩; (exact call_cl HAd'.out x); clear hK K
    refine Phase.q_step rfl (fun K hK => want rfl ?_)
    refine Arr.loadQ (fun V (h : ∃ x : Ab W, V = x.val) => HFa.out.below (Cl.below h) HFa.out.lt) 63 (.tmp 5) rfl rfl num_u rfl num_size (wd3 _) ?_
    refine hK _ ?_
    clear hK K
    refine Phase.q_step rfl (fun K hK => ?_); go_simp; apply Exists.intro; refine ⟨fun x => ?_, hK _ ?_⟩; (exact call_cl HMu'.out x); clear hK K
    refine Phase.q_step rfl (fun K hK => ?_); go_simp; apply Exists.intro; refine ⟨fun x => ?_, hK _ ?_⟩; (exact call_cl HRe'.out x); clear hK K
    refine Phase.q_nil ?_
    rintro V hV K hK
    have hBV := Cl.below hV
    have hTV := HTa.out.below hBV HTa.out.lt
    refine want rfl ?_
    refine Arr.storeO hTV 63 (.tmp 6) (.tmp 21) rfl rfl (nc (wd (red pd) 3)) rfl num_size (wd3 _) (wd3 _) (nc_one _) ?_
    refine hK _ _ ⟨fun X => X = V.setRow (gF + 1) (nc (wd (red pd) 3)).toArray, rfl, ?_⟩
    clear hK K
    refine Phase.g_nil ?_
    intro wz hz
    rw [show wz = _ from hz]
    clear hz
    have hgr := grownTrans (grownOf (g := gF + 1) hBV) (grown_row V (gF + 1) (nc (wd (red pd) 3)).toArray)
    have hlt5 := HZ5.out
    refine ⟨KeepsFrom.of_grownBy hgr (fun j e => by cases e; omega), ⟨World.cell?_of_block (hgr.block _ (show gF + 2 < W.heap.size by have := HSz.out; omega) (fun e => by injection e with e; exact absurd e (show ¬ gF + 2 = gF + 1 by omega))), World.cell?_of_block (hgr.block _ (show gF + 3 < W.heap.size by have := HSz.out; omega) (fun e => by injection e with e; exact absurd e (show ¬ gF + 3 = gF + 1 by omega)))⟩, ?_, grownTrans HGr.out hgr⟩
    show Arr _ _ _ (nc (wd (accT r b ((pre ++ [x]).map Subtype.val)) 3))
    rw [HNx.out]
    exact hTV.row _
  case done =>
    rintro D ys W hD hS ⟨hT, hG⟩ hK
    have hTo := accT_tot r b HRl.out (ys.map Subtype.val)
    have hT2 : Arr W (gF + 1) 63 (nc (wd (accT r b (ys.map Subtype.val)) 3)) := hT
    rw [hS] at hTo hT2
    have htw := HTW.out
    obtain ⟨T, hTe⟩ : ∃ T, accT r b (List.range ((b.length + 15) / 16)) = T := ⟨_, rfl⟩
    rw [hTe] at hTo hT2 htw
    have hgl : g ≤ w5.heap.size := by have := HZ5.out; have := HZF.out; omega
    have hle := hG.size
    have hbs : Bs W W.heap.size (some ad) key := ((bs_grown (B := g) (by rw [← HG.out]; exact HA0.out.below (by rw [HG.out]; exact HBw5.out)) hG (by have := HZF.out; omega) hgl).more (Nat.le_trans hgl hle))
    have hbd : Bs W W.heap.size (some { block := ad.block, off := ad.off + 16 }) (key.drop 16) := hbs.drop 16
    have hkl : (key.drop 16).length = 16 := by rw [List.length_drop, HK.out]
    rw [List.take_of_length_le (show (key.drop 16).length ≤ 16 by omega)] at htw
    obtain ⟨ks, hks⟩ : ∃ z, key.drop 16 = z := ⟨_, rfl⟩
    rw [hks] at hbd hkl htw
    obtain ⟨s, hs⟩ : ∃ s, lev ks = s := ⟨_, rfl⟩
    obtain ⟨X, hX⟩ : ∃ X, T + 5 * ((T + 5) / 1361129467683753853853498429727072845824) = X := ⟨_, rfl⟩
    have hle16 := le_rem T s hTo
    rw [hX] at hle16
    rw [hs] at htw
    have hfin : le16 (X + s) = tagS key b := by rw [hle16, htw]
    have HRm : ∀ V, Below W.heap.size W V → Calls Try.prog 45 #[.agg (nc (wd T 3)).toArray] V fun e w' => e = .returned (.agg (nc (wd X 3)).toArray) ∧ Below W.heap.size W w' := fun V hV => by
      rw [← hX]
      exact (remainder_any T hTo V).mono fun e w' ⟨he, hb⟩ => ⟨he, hV.trans (hb.mono hV.size)⟩
    have HRd : ∀ V, Below W.heap.size W V → Calls Try.prog 38 #[.slice (some { block := ad.block, off := ad.off + 16 }) 16 (c - 16)] V fun e w' => e = .returned (.agg (nc (wd s 3)).toArray) ∧ Below W.heap.size W w' := fun V hV => by
      have h := read_any (some { block := ad.block, off := ad.off + 16 }) ks (c - 16) V ((hbd.below hV).more hV.size) (by omega)
      rw [hkl, hs] at h
      exact h.mono fun e w' ⟨he, hb⟩ => ⟨he, hV.trans (hb.mono hV.size)⟩
    have HAd : ∀ V, Below W.heap.size W V → Calls Try.prog 42 #[.agg (nc (wd X 3)).toArray, .agg (nc (wd s 3)).toArray] V fun e w' => e = .returned (.agg (nc (wd (X + s) 3)).toArray) ∧ Below W.heap.size W w' := fun V hV =>
      (add_any X s V).mono fun e w' ⟨he, hb⟩ => ⟨he, hV.trans (hb.mono hV.size)⟩
    obtain ⟨R, hR⟩ : ∃ R, tagS key b = R := ⟨_, rfl⟩
    have hRl : (Lib.byteCells R).length = 16 := by rw [Lib.byteCells_length, ← hR, tagS_len]
    have HWr : ∀ V, Below W.heap.size W V → Calls Try.prog 44 #[.agg (nc (wd (X + s) 3)).toArray] V fun e w' => e = .returned (.agg (Lib.byteCells R).toArray) ∧ Below W.heap.size W w' := fun V hV => by
      rw [← hR, ← hfin]
      exact (write_any (X + s) V).mono fun e w' ⟨he, hb⟩ => ⟨he, hV.trans (hb.mono hV.size)⟩
    have HRm' := Lib.hid HRm
    have HRd' := Lib.hid HRd
    have HAd' := Lib.hid HAd
    have HWr' := Lib.hid HWr
    have HTa := Lib.hid hT2
    have HRR := Lib.hid hR
    have HRl2 := Lib.hid hRl
    have HR0 := Lib.hid (arr_grown A05.out hG (by have := HZF.out; omega))
    have HGr := Lib.hid hG
    have HKd := Lib.hid hK
    have HDl := Lib.hid hD
    have hDW : D < W.heap.size := (Array.getElem?_eq_some_iff.1 hK).1
    have HDW := Lib.hid hDW
    have hab := ab W
    have hc16 : ¬ c = 16 := by omega
    obtain ⟨Y, hY⟩ : ∃ Y, X + s = Y := ⟨_, rfl⟩
    rw [hY] at HAd' HWr'
    clear hT hG hK hS hTo hT2 htw hTe hgl hle hbs hbd hkl hks hs hX hle16 hfin HRm HRd HAd HWr hR hRl hD hDW hY
    go_upto_region 6 with (fail)
    refine wp_onlyN ?_
    refine Phase.wp_region_phases [([], [0, 1, 2, 3, 4, 5, 6], some 7)] (fun V => ∃ x : Ab W, V = x.val) (by kernel_rfl) (by kernel_rfl) (fun _ _ _ _ _ (h : False) => h.elim) (Cl.of (Below.refl _ _).drew) ?_
    refine Phase.g_alone rfl ?_
    refine Phase.p_nil ?_
    refine Phase.q_step rfl (fun K hK => want rfl ?_)
    refine Arr.loadQ (fun V (h : ∃ x : Ab W, V = x.val) => HTa.out.below (Cl.below h) HTa.out.lt) 63 (.tmp 6) rfl rfl num_u rfl num_size (wd3 _) ?_
    refine hK _ ?_
    clear hK K
    refine Phase.q_step rfl (fun K hK => ?_); go_simp; apply Exists.intro; refine ⟨fun x => ?_, hK _ ?_⟩; (exact call_cl HRm'.out x); clear hK K
    refine Phase.q_step rfl (fun K hK => ?_); go_simp; refine hK _ ?_; clear hK K
    refine Phase.q_step rfl (fun K hK => ?_); go_simp; refine hK _ ?_; clear hK K
    refine Phase.q_step rfl (fun K hK => ?_); go_simp; apply Exists.intro; refine ⟨fun x => ?_, hK _ ?_⟩; (exact call_cl HRd'.out x); clear hK K
    refine Phase.q_step rfl (fun K hK => ?_); go_simp; apply Exists.intro; refine ⟨fun x => ?_, hK _ ?_⟩; (exact call_cl HAd'.out x); clear hK K
    refine Phase.q_step rfl (fun K hK => ?_); go_simp; apply Exists.intro; refine ⟨fun x => ?_, hK _ ?_⟩; (exact call_cl HWr'.out x); clear hK K
    refine Phase.q_nil ?_
    rintro V hV K hK
    have hBV := Cl.below hV
    have hRV := HR0.out.below hBV HR0.out.lt
    refine want rfl ?_
    refine Arr.storeO hRV 33 (.tmp 4) (.tmp 28) rfl rfl (Lib.byteCells R) rfl a16_size (by rfl) HRl2.out (bytes_one _) ?_
    refine hK _ _ ⟨fun X => X = V.setRow g (Lib.byteCells R).toArray, rfl, ?_⟩
    clear hK K
    refine Phase.g_nil ?_
    intro wz hz
    rw [show wz = _ from hz]
    clear hz
    have hgr := grownTrans (grownOf (g := g) hBV) (grown_row V g (Lib.byteCells R).toArray)
    have hkd := (hgr.block D HDW.out (fun e => by injection e with e; have := HDl.out; have := HZ5.out; have := HZF.out; omega)).trans HKd.out
    have hrr := hRV.row (Lib.byteCells R)
    have hbw : Below g w (V.setRow g (Lib.byteCells R).toArray) := by
      refine below_row (Below.trans ?_ (hBV.mono (show g ≤ W.heap.size by have := HGr.out.size; have := HZ5.out; have := HZF.out; omega))) (Nat.le_refl g) _
      exact HBw5.out.trans (grownBelow HGr.out (show g ≤ gF + 1 by have := HZF.out; omega) (by have := HZ5.out; have := HZF.out; omega))
    obtain ⟨Z, hZ⟩ : ∃ Z, V.setRow g (Lib.byteCells R).toArray = Z := ⟨_, rfl⟩
    rw [hZ] at hkd hrr hbw ⊢
    clear hZ hgr hRV hBV hV
    dsimp only [onlyN]
    go_wp2
    refine ⟨by simp, .inl ⟨_, _, rfl, run_takeDeferred hkd, ?_⟩⟩
    have hDg : g ≠ D := by have := HDl.out; have := HZ5.out; have := HZF.out; omega
    have hrp : Arr (Z.putObj D (.deferred none)) g 33 (Lib.byteCells R) := (World.putObj_heap_other hDg).trans hrr
    refine ⟨.agg (Lib.byteCells R).toArray, hrp.ret rfl _ rfl a16 rfl a16_size HRl2.out, by rw [HRR.out], ?_⟩
    rw [HG.out]
    exact hbw.trans (belowK_b (w := w5) (by have := HZ5.out; have := HZF.out; omega) Z D _ _ HDl.out hkd rfl rfl)
  case stop =>
    rintro D c pre W _ _ h _
    exact h.elim
end Go.Proofs.Ytohpgfefdlccmaa.OneWW
