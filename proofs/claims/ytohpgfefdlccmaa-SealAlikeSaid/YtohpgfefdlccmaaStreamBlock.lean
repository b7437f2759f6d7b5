/-
  ticketwardref.HBlock: what it hands back. Conditions: in the statement.
-/
import Derived.Test.YtohpgfefdlccmaaStreamPut
import Derived.Test.YtohpgfefdlccmaaKb
import Derived.Test.YtohpgfefdlccmaaKd
import Derived.Test.YtohpgfefdlccmaaKc
import Derived.Lib.AppendZeros
import Derived.Lib.SlBytesConst
namespace Go.Proofs.Ytohpgfefdlccmaa.StreamBlockW
open Go.RowKit BytesW CellsW WordsW ArrW ArrG HashM HashTurnW StreamM StreamStepW StreamPutW

/-- A row of bytes that has just been laid, whatever its mark. -/
theorem lits (w : World) (l : List UInt8) (cs : Array Value) (hcs : cs = (Lib.byteCells l).toArray) (fz : Nat × Nat) (B : Nat) (hB : w.heap.size < B) : Bs (w.alloc (.cells cs 5 fz)) B (some ⟨w.heap.size, 0, none⟩) l := by
  subst hcs
  intro _
  refine ⟨_, rfl, hB, fun k hk => ?_⟩
  have e : (⟨w.heap.size, 0, none⟩ : Addr).add k = ⟨w.heap.size, k, none⟩ := by unfold Addr.add; split <;> simp_all
  rw [e]
  unfold World.cell?
  simp only [heap_alloc_new]
  simp [Lib.byteCells, List.getElem?_eq_getElem hk]

theorem apart_of {w0 w1 : World} {g : Nat} {A : Option Addr} {l : List UInt8} {v : Value} {ls : List Nat} (h : Bs w0 g A l) (hu : URow g w1 v ls) : 0 < l.length → ∀ ad, A = some ad → ad.block ≠ g ∧ v.ownBlock ≠ some ad.block := by
  intro h0 ad e
  obtain ⟨ad', e', hlt, _⟩ := h h0
  rw [e] at e'
  cases e'
  exact ⟨by omega, fun he => by have := (World.ownsRow.lt hu _ he).1; omega⟩

set_option maxHeartbeats 8000000 in
set_option maxRecDepth 100000 in
theorem hblock_any (A : Option Addr) (key : List UInt8) (c : Nat) (A' : Option Addr) (nonce : List UInt8) (c' : Nat) (n : Int) (w : World) (hA : Bs w w.heap.size A key) (hk : key.length = 32) (hB : Bs w w.heap.size A' nonce) (hn : nonce.length = 12) :
    Calls Try.prog 32 #[.slice A key.length c, .slice A' nonce.length c', .int .i64 n] w fun e w' => ∃ v, e = .returned v ∧ Row w.heap.size w' v (block key nonce n) ∧ Below w.heap.size w w' := by
  have kc := fun (w : World) (C : Array Value) (n c : Nat) => Lib.run_convert_bytes_const (P := Try.prog) w 22 5 C n c Try.underlying22 Try.underlying5
  have HA := Lib.hid hA
  have HB := Lib.hid hB
  have HK := Lib.hid hk
  have HN := Lib.hid hn
  clear hA hB hk hn
  go_enter Try.func32, Try.ntmps32
  go_upto_region 2 with (fail)
  generalize hW : World.alloc _ _ = W
  obtain ⟨r0, hb0, hs0⟩ := start1 hW
  clear hW
  obtain ⟨g, hg⟩ : ∃ g, w.heap.size = g := ⟨_, rfl⟩
  have HG := Lib.hid hg
  have AV0 : Hid (Arr W g 59 [.slice none 0 0]) := Lib.hid (by rw [← hg]; exact r0)
  have X0 : Hid (Below g w W) := Lib.hid (by rw [← hg]; exact hb0)
  have hgl : g < W.heap.size := AV0.out.lt
  rw [hg] at HA HB ⊢
  clear r0 hb0 hs0 hg
  go_wp2_with fail
  have sb := lits W sigma #[.int .u8 101, .int .u8 120, .int .u8 112, .int .u8 97, .int .u8 110, .int .u8 100, .int .u8 32, .int .u8 51, .int .u8 50, .int .u8 45, .int .u8 98, .int .u8 121, .int .u8 116, .int .u8 101, .int .u8 32, .int .u8 107] rfl (16, 17) (W.heap.size + 1) (Nat.lt_succ_self _)
  have b1 := (Below.refl W.heap.size W).alloc (Nat.le_refl _) (.cells #[.int .u8 101, .int .u8 120, .int .u8 112, .int .u8 97, .int .u8 110, .int .u8 100, .int .u8 32, .int .u8 51, .int .u8 50, .int .u8 45, .int .u8 98, .int .u8 121, .int .u8 116, .int .u8 101, .int .u8 32, .int .u8 107] 5 (16, 17))
  obtain ⟨W1, hW1⟩ : ∃ W1, W.alloc (.cells #[.int .u8 101, .int .u8 120, .int .u8 112, .int .u8 97, .int .u8 110, .int .u8 100, .int .u8 32, .int .u8 51, .int .u8 50, .int .u8 45, .int .u8 98, .int .u8 121, .int .u8 116, .int .u8 101, .int .u8 32, .int .u8 107] 5 (16, 17)) = W1 := ⟨_, rfl⟩
  have hz1 : W1.heap.size = W.heap.size + 1 := by rw [← hW1]; simp
  rw [hW1] at sb b1 ⊢
  rw [← hz1] at sb
  have AV1 := Lib.hid (AV0.out.below b1 hgl)
  have X1 := Lib.hid (X0.out.trans (b1.mono (Nat.le_of_lt hgl)))
  have hp := put_any g g 4 (some ⟨W.heap.size, 0, none⟩) sigma 16 (.slice none 0 0) [] W1 sb (by decide) (by decide) AV1.out (URow.nil _ _) (Nat.le_refl _) (by simp [Value.ownBlock]) (fun _ ad e => by cases e; exact ⟨by simp only; omega, by simp [Value.ownBlock]⟩)
  have HPu := Lib.hid hp
  clear hp sb b1 hW1 hz1 kc
  refine HPu.out.mono ?_
  clear HPu
  rintro e w1 ⟨rfl, v1, a1, u1, o1, b1⟩
  have AV2 := Lib.hid a1
  have US2 := Lib.hid u1
  have HO2 := Lib.hid o1
  have X2 := Lib.hid (X1.out.trans b1)
  clear a1 u1 o1 b1
  have hxg : w.heap.size = g := HG.out
  have hp := put_any g g 8 A key c v1 _ w1 ((HA.out.below X2.out).more (Nat.le_of_lt AV2.out.lt)) HK.out (by rw [List.nil_append]; decide) AV2.out US2.out (Nat.le_refl _) HO2.out (apart_of HA.out US2.out)
  have HPu := Lib.hid hp
  clear hp
  go_wp2_with fail
  refine HPu.out.mono ?_
  clear HPu
  rintro e w2 ⟨rfl, v2, a2, u2, o2, b2⟩
  rw [List.nil_append] at u2
  have AV3 := Lib.hid a2
  have HO3 := Lib.hid o2
  have X3 := Lib.hid (X2.out.trans b2)
  have HLn := Lib.hid (show (lwords sigma ++ lwords key).length = 12 by rw [List.length_append, lwords_len, lwords_len, HK.out]; rfl)
  obtain ⟨ls, hls⟩ : ∃ ls, lwords sigma ++ lwords key = ls := ⟨_, rfl⟩
  rw [hls] at HLn u2
  have HLs := Lib.hid hls
  have US3 := Lib.hid u2
  have cg : w2.cell? ⟨g, 0, none⟩ = some v2 := a2.cell 0
  have fg := a2.frozen 0
  obtain ⟨N, hN⟩ : ∃ N, (n % 4294967296).toNat = N := ⟨_, rfl⟩
  have HNn := Lib.hid hN
  have eN : IntKind.u32.wrap n = (N : Int) := by rw [IntKind.wrap_u32, ← hN]; omega
  clear a2 u2 o2 b2 hls hN hxg AV0 X0 AV1 X1 AV2 US2 HO2
  have US31 := Lib.hid (US3.out.alloc (.cells #[.int .u32 (N : Int)] 48))
  have NW := Lib.hid (newWord w2 N)
  have b3 := (Below.refl w2.heap.size w2).alloc (Nat.le_refl _) (.cells #[.int .u32 (N : Int)] 48)
  have hg2 : g ≤ w2.heap.size := Nat.le_of_lt AV3.out.lt
  have AV31 := Lib.hid (AV3.out.below b3 AV3.out.lt)
  have X31 := Lib.hid (X3.out.trans (b3.mono hg2))
  have hz1 := b3.size
  clear b3
  go_wp2_with (at_builtin; go_must (refine uapp1g rfl (.tmp 27) (.tmp 30) rfl g v2 _ rfl US31.out ⟨w2.heap.size, 0, none⟩ 1 N rfl NW.out (by rw [HLn.out]; decide) (by simp; omega) ?_))
  obtain ⟨W3, hW3⟩ : ∃ W3, w2.alloc (.cells #[.int .u32 (N : Int)] 48) = W3 := ⟨_, rfl⟩
  rw [hW3] at AV31 X31 US31 hz1 ⊢
  intro v3 w3 u3 g3 hv3
  have av3 := arr_other AV31.out g3 HO3.out
  have X32 := Lib.hid (X31.out.trans (below_other g3 (Nat.le_trans hg2 hz1) (fun k hk => (World.ownsRow.lt US31.out k hk).1)))
  have cg3 : w3.cell? ⟨g, 0, none⟩ = some v2 := av3.cell 0
  have fg3 := av3.frozen 0
  have av4 := av3.set 0 v3
  rw [show ([v2] : List Value).set 0 v3 = [v3] from rfl] at av4
  have gs := grownSet w3 g 0 v3
  have hv3g : v3.ownBlock ≠ some g := fun e => by
    rcases hv3 g e with h | h
    · exact HO3.out h
    · have := AV31.out.lt; have := AV3.out.lt; omega
  have us4 : URow g (w3.setCell ⟨g, 0, none⟩ v3) v3 (ls ++ [N]) := by
    unfold URow VRow at u3 ⊢
    exact World.ownsRow.kept u3 gs (.inr hv3g)
  have X4 := Lib.hid (X32.out.trans (grownBelow gs (Nat.le_refl _) (Nat.le_trans hg2 (Nat.le_trans hz1 g3.size))))
  obtain ⟨A3, d3, rfl, -, -⟩ := u3.form
  have hl3 : (ls ++ [N]).length = 13 := by rw [List.length_append, HLn.out]; rfl
  rw [hl3] at av4 us4 X4 hv3g ⊢
  have AV4 := Lib.hid av4
  have US4 := Lib.hid us4
  have HO4 := Lib.hid hv3g
  clear u3 g3 hv3 av3 av4 us4 gs hv3g hW3 X31 X32 AV31 US31 NW AV3 US3 X3 HO3 cg fg hz1 hg2 hl3 eN
  go_upto_region 6 with (fail)
  obtain ⟨w4, hw4⟩ : ∃ w4, w3.setCell ⟨g, 0, none⟩ (.slice A3 13 d3) = w4 := ⟨_, rfl⟩
  rw [hw4] at AV4 US4 X4 ⊢
  have hxg : w.heap.size = g := HG.out
  have hp := put_any g g 3 A' nonce c' _ _ w4 ((HB.out.below X4.out).more (Nat.le_of_lt AV4.out.lt)) HN.out (by rw [List.length_append, HLn.out, List.length_singleton]; decide) AV4.out US4.out (Nat.le_refl _) HO4.out (apart_of HB.out US4.out)
  have HPu := Lib.hid hp
  clear hp hw4 cg3 fg3
  go_wp2_with fail
  refine HPu.out.mono ?_
  clear HPu
  rintro e w5 ⟨rfl, v5, a5, u5, o5, b5⟩
  have hst : ls ++ [N] ++ lwords nonce = StreamM.start key nonce n := by unfold StreamM.start; rw [← HLs.out, ← HNn.out]
  rw [hst] at u5
  have HSl := Lib.hid (start_len key nonce n HK.out HN.out)
  have HSo := Lib.hid (start_ok key nonce n)
  have HBl := Lib.hid (show block key nonce n = (List.range 64).map (byteAt (rounds (StreamM.start key nonce n) 20) (StreamM.start key nonce n)) from rfl)
  obtain ⟨S0, hS0⟩ : ∃ S0, StreamM.start key nonce n = S0 := ⟨_, rfl⟩
  rw [hS0] at u5 HSl HSo HBl
  have X5 := Lib.hid (X4.out.trans b5)
  have AV5 := Lib.hid a5
  have HO5 := Lib.hid o5
  obtain ⟨A5, d5, rfl, -, -⟩ := u5.form
  rw [HSl.out] at u5 AV5 HO5 a5
  obtain ⟨r, rfl, -, -, hgr, hrl, -, -⟩ := u5.place (by rw [HSl.out]; decide)
  have US5 := Lib.hid u5
  have HR := Lib.hid (show g ≠ r from fun e => HO5.out (by rw [e]; rfl))
  have HGr := Lib.hid hgr
  have HRl := Lib.hid hrl
  have cg : w5.cell? ⟨g, 0, none⟩ = some (.slice (some ⟨r, 0, none⟩) 16 d5) := a5.cell 0
  have he := URow.empty w5.heap.size w5 (Nat.le_refl _)
  have b6 := (Below.refl w5.heap.size w5).alloc (Nat.le_refl _) (.cells #[] 48)
  have HEm := Lib.hid he
  have B6 := Lib.hid b6
  have US51 := Lib.hid (US5.out.alloc (.cells #[] 48))
  have cg1 : (w5.alloc (.cells #[] 48)).cell? ⟨g, 0, none⟩ = some (.slice (some ⟨r, 0, none⟩) 16 d5) := (b6.cell (p := ⟨g, 0, none⟩) (AV5.out.lt)).trans cg
  obtain ⟨A5', c5', e5', us5, -⟩ := US51.out.form
  obtain ⟨rfl, -, -⟩ := Value.slice.inj e5'
  have HU5 := Lib.hid us5
  clear a5 u5 o5 b5 hst hS0 he b6 us5 e5' hgr hrl X4 AV4 US4 HO4 HLs HNn cg
  go_wp2_with (at_builtin; go_must (refine uappN rfl (.tmp 35) (.tmp 36) rfl w5.heap.size _ _ [] rfl HEm.out ⟨r, 0, none⟩ S0 16 d5 rfl HSl.out HU5.out (by simp; rw [HSl.out]; decide) (by simp) ?_))
  intro v9 w6 u6 b6
  have b56 := B6.out.trans b6
  have AV6 := Lib.hid (AV5.out.below b56 AV5.out.lt)
  have US6 := Lib.hid (US5.out.below b56)
  have X6 := Lib.hid (X5.out.trans (b56.mono (Nat.le_of_lt AV5.out.lt)))
  have HRl6 := Lib.hid (Nat.lt_of_lt_of_le HRl.out b56.size)
  obtain ⟨A9, d9, rfl, -, -⟩ := u6.form
  rw [HSl.out] at u6 ⊢
  obtain ⟨r9, rfl, -, -, hr9, -, -, -⟩ := u6.place (by rw [HSl.out]; decide)
  have U9 := Lib.hid u6
  have H9 := Lib.hid (show r9 ≠ r by have := HRl.out; omega)
  clear u6 b6 b56 hr9 AV5 US5 X5 HRl B6 HEm US51 HU5 cg1 HO5
  go_wp2
  go_loopw [39] (fun vt wr => ∃ t : Nat, t ≤ 20 ∧ vt = .int .i64 (t : Int) ∧ URow g wr (.slice (some ⟨r, 0, none⟩) 16 d5) (rounds S0 t) ∧ w6.grownBy wr (some r)) (fun vt _ => 20 - (intOf vt).toNat)
  case atStart => exact ⟨0, by omega, rfl, US6.out, grownRefl _ _⟩
  case round =>
    obtain ⟨t, ht, rfl, ut, gt⟩ := hrel
    have UT := Lib.hid ut
    have GT := Lib.hid gt
    clear ut gt
    by_cases hlt : t < 20
    · have ct : decide ((t : Int) < 20) = true := decide_eq_true (by omega)
      go_wp2
      go_loopw [42] (fun vq wx => ∃ q : Nat, q ≤ 4 ∧ vq = .int .i64 (q : Int) ∧ URow g wx (.slice (some ⟨r, 0, none⟩) 16 d5) (parts (rounds S0 t) t q) ∧ w6.grownBy wx (some r)) (fun vq _ => 4 - (intOf vq).toNat)
      case atStart => exact ⟨0, by omega, rfl, UT.out, GT.out⟩
      case round =>
        obtain ⟨q, hq, rfl, uq, gq⟩ := hrel
        have UQ := Lib.hid uq
        have GQ := Lib.hid gq
        clear uq gq
        by_cases hlq : q < 4
        · have cq : decide ((q : Int) < 4) = true := decide_eq_true (by omega)
          go_upto_region 16 with (fail)
          rename_i K18 h18 K16 h16
          obtain ⟨s, hs⟩ : ∃ s, parts (rounds S0 t) t q = s := ⟨_, rfl⟩
          have HNx := Lib.hid (show parts (rounds S0 t) t (q + 1) = StreamM.part s t q by rw [← hs]; rfl)
          have HL0 := Lib.hid (show s.length = 16 by rw [← hs, parts_len, rounds_len]; exact HSl.out)
          have HOk0 := Lib.hid (show Ok s by rw [← hs]; exact parts_ok (rounds_ok HSo.out t) t q)
          rw [hs] at UQ
          clear hs
          have H18 : ∀ (bb cc dd : Nat) (z45 z46 z47 z48 z49 z50 z51 z52 z53 z54 z55 z56 z57 z58 z59 z60 z61 z62 z63 z64 z65 z66 : Value), bb < 16 → cc < 16 → dd < 16 → quarter s q bb cc dd = StreamM.part s t q → K18 { tmps := #[.slice A key.length c, .slice A' nonce.length c', .int .i64 n, undef, undef, undef, .slice none 0 0, .pointer (some ⟨g, 0, none⟩), .func (.func 46) #[] #[.pointer (some ⟨g, 0, none⟩)], .slice (some ⟨r9, 0, none⟩) 16 d9, .func (.func 47) #[] #[.pointer (some ⟨g, 0, none⟩)], .int .i64 (t : Int), .int .i64 (q : Int), .int .i64 (q : Int), .int .i64 (bb : Int), .int .i64 (cc : Int), .int .i64 (dd : Int), undef, undef, .func (.func 46) #[] #[.pointer (some ⟨g, 0, none⟩)], .func (.func 46) #[] #[.pointer (some ⟨g, 0, none⟩)], .slice (some ⟨W.heap.size, 0, none⟩) 16 16, .slice (some ⟨W.heap.size, 0, none⟩) 16 16, .tuple #[], .func (.func 46) #[] #[.pointer (some ⟨g, 0, none⟩)], .slice A key.length c, .tuple #[], v2, .int .i64 n, .int .u32 (N : Int), .slice (some ⟨w2.heap.size, 0, none⟩) 1 1, .slice A3 13 d3, .func (.func 46) #[] #[.pointer (some ⟨g, 0, none⟩)], .slice A' nonce.length c', .tuple #[], .slice (some ⟨w5.heap.size, 0, none⟩) 0 0, .slice (some ⟨r, 0, none⟩) 16 d5, .slice (some ⟨r9, 0, none⟩) 16 d9, .func (.func 47) #[] #[.pointer (some ⟨g, 0, none⟩)], .int .i64 (t : Int), .bool true, .int .i64 (t : Int), .int .i64 (q : Int), .bool true, .int .i64 (q : Int), z45, z46, z47, z48, z49, z50, z51, z52, z53, z54, z55, z56, z57, z58, z59, z60, z61, z62, z63, z64, z65, z66, u67, u68, u69, u70, u71, u72, u73, u74, u75, u76, u77, u78, u79, u80, u81, u82, u83, u84, u85, u86, u87, u88, undef, undef, undef, undef, undef, undef, undef, undef, undef, undef, undef, undef, undef, undef, undef, undef, undef, undef, undef, undef, undef, undef, undef, undef], defers := [] } wr := by
            intro bb cc dd z45 z46 z47 z48 z49 z50 z51 z52 z53 z54 z55 z56 z57 z58 z59 z60 z61 z62 z63 z64 z65 z66 hb hc hd hqr
            have HQr := Lib.hid hqr
            clear hqr
            refine h18 _ _ ?_
            have G0 := GQ
            have R0 := UQ
            have L0 := HL0
            have O0 := HOk0
            unfold quarter at HQr
            have hst := step_any g g r d5 s q bb dd 16 wr (arr_grown AV6.out G0.out HR.out) R0.out L0.out O0.out HR.out (by omega) (by omega) (by omega) (by decide) (by decide)
            have HSt := Lib.hid hst
            clear hst
            go_wp2_with fail
            refine HSt.out.mono ?_
            clear HSt
            rintro e x1 ⟨rfl, us, gs⟩
            obtain ⟨s1, hsn⟩ : ∃ x, stepM s q bb dd 16 = x := ⟨_, rfl⟩
            have L1 := Lib.hid (show s1.length = 16 by rw [← hsn, stepM_len]; exact L0.out)
            have O1 := Lib.hid (show Ok s1 by rw [← hsn]; exact stepM_ok O0.out _ _ _ _ (by decide))
            have G1 := Lib.hid (grownTrans G0.out gs)
            rw [hsn] at us HQr
            have R1 := Lib.hid us
            clear us gs hsn
            have hst := step_any g g r d5 s1 cc dd bb 12 x1 (arr_grown AV6.out G1.out HR.out) R1.out L1.out O1.out HR.out (by omega) (by omega) (by omega) (by decide) (by decide)
            have HSt := Lib.hid hst
            clear hst
            go_wp2_with fail
            refine HSt.out.mono ?_
            clear HSt
            rintro e x2 ⟨rfl, us, gs⟩
            obtain ⟨s2, hsn⟩ : ∃ x, stepM s1 cc dd bb 12 = x := ⟨_, rfl⟩
            have L2 := Lib.hid (show s2.length = 16 by rw [← hsn, stepM_len]; exact L1.out)
            have O2 := Lib.hid (show Ok s2 by rw [← hsn]; exact stepM_ok O1.out _ _ _ _ (by decide))
            have G2 := Lib.hid (grownTrans G1.out gs)
            rw [hsn] at us HQr
            have R2 := Lib.hid us
            clear us gs hsn
            have hst := step_any g g r d5 s2 q bb dd 8 x2 (arr_grown AV6.out G2.out HR.out) R2.out L2.out O2.out HR.out (by omega) (by omega) (by omega) (by decide) (by decide)
            have HSt := Lib.hid hst
            clear hst
            go_wp2_with fail
            refine HSt.out.mono ?_
            clear HSt
            rintro e x3 ⟨rfl, us, gs⟩
            obtain ⟨s3, hsn⟩ : ∃ x, stepM s2 q bb dd 8 = x := ⟨_, rfl⟩
            have L3 := Lib.hid (show s3.length = 16 by rw [← hsn, stepM_len]; exact L2.out)
            have O3 := Lib.hid (show Ok s3 by rw [← hsn]; exact stepM_ok O2.out _ _ _ _ (by decide))
            have G3 := Lib.hid (grownTrans G2.out gs)
            rw [hsn] at us HQr
            have R3 := Lib.hid us
            clear us gs hsn
            have hst := step_any g g r d5 s3 cc dd bb 7 x3 (arr_grown AV6.out G3.out HR.out) R3.out L3.out O3.out HR.out (by omega) (by omega) (by omega) (by decide) (by decide)
            have HSt := Lib.hid hst
            clear hst
            go_wp2_with fail
            refine HSt.out.mono ?_
            clear HSt
            rintro e x4 ⟨rfl, us, gs⟩
            obtain ⟨s4, hsn⟩ : ∃ x, stepM s3 cc dd bb 7 = x := ⟨_, rfl⟩
            have L4 := Lib.hid (show s4.length = 16 by rw [← hsn, stepM_len]; exact L3.out)
            have O4 := Lib.hid (show Ok s4 by rw [← hsn]; exact stepM_ok O3.out _ _ _ _ (by decide))
            have G4 := Lib.hid (grownTrans G3.out gs)
            rw [hsn] at us HQr
            have R4 := Lib.hid us
            clear us gs hsn
            go_wp2
            go_roundw
            case rel =>
              repeat apply Exists.intro
              exact ⟨⟨q + 1, by omega, by go_num, by rw [HNx.out, ← HQr.out]; exact R4.out, G4.out⟩, rfl⟩
            case measure => simp [intOf]; omega
          clear h18
          by_cases hpar : t % 2 = 1
          · have HP := Lib.hid (show quarter s q (4 + (q + 1) % 4) (8 + (q + 2) % 4) (12 + (q + 3) % 4) = StreamM.part s t q by unfold StreamM.part; rw [if_pos hpar])
            have p1 : (((t : Int) % 2) == 1) = true := by rw [beq_iff_eq]; omega
            have p2 : (((t : Int).tmod 2) == 1) = true := by rw [beq_iff_eq, Int.tmod_eq_emod_of_nonneg (by omega)]; omega
            go_wp2
            exact H18 (4 + (q + 1) % 4) (8 + (q + 2) % 4) (12 + (q + 3) % 4) _ _ _ _ _ _ _ _ _ _ _ _ _ _ _ _ _ _ _ _ _ _ (by omega) (by omega) (by omega) HP.out
          · have HP := Lib.hid (show quarter s q (4 + q) (8 + q) (12 + q) = StreamM.part s t q by unfold StreamM.part; rw [if_neg hpar])
            have p1 : (((t : Int) % 2) == 1) = false := by rw [beq_eq_false_iff_ne]; omega
            have p2 : (((t : Int).tmod 2) == 1) = false := by rw [beq_eq_false_iff_ne, Int.tmod_eq_emod_of_nonneg (by omega)]; omega
            go_wp2
            exact H18 (4 + q) (8 + q) (12 + q) _ _ _ _ _ _ _ _ _ _ _ _ _ _ _ _ _ _ _ _ _ _ (by omega) (by omega) (by omega) HP.out
        · obtain rfl : q = 4 := by omega
          have cq : decide (((4 : Nat) : Int) < 4) = false := rfl
          have hrn : parts (rounds S0 t) t 4 = rounds S0 (t + 1) := rfl
          rw [hrn] at UQ
          clear hrn
          go_wp2
          go_roundw
          case rel => exact ⟨t + 1, by omega, by go_num, UQ.out, GQ.out⟩
          case measure => simp [intOf]; omega
    · obtain rfl : t = 20 := by omega
      have ct : decide (((20 : Nat) : Int) < 20) = false := rfl
      obtain ⟨S2, hS2⟩ : ∃ S2, rounds S0 20 = S2 := ⟨_, rfl⟩
      have HL2 := Lib.hid (show S2.length = 16 by rw [← hS2, rounds_len]; exact HSl.out)
      rw [hS2] at UT HBl
      have AVz := Lib.hid (arr_grown AV6.out GT.out HR.out)
      have u9z : URow w5.heap.size wr (.slice (some ⟨r9, 0, none⟩) 16 d9) S0 := by
        have h := U9.out
        unfold URow VRow at h ⊢
        exact World.ownsRow.kept h GT.out (.inr (fun e => H9.out (Option.some.inj e)))
      have U9z := Lib.hid u9z
      have Xz := Lib.hid (X6.out.trans (grownBelow GT.out HGr.out (Nat.le_trans (Nat.le_of_lt AV6.out.lt) (Nat.le_refl _))))
      have HZ := Lib.hid (show g ≤ wr.heap.size from Nat.le_of_lt AVz.out.lt)
      obtain ⟨wz, hwz⟩ : ∃ wz, wz = wr := ⟨_, rfl⟩
      rw [← hwz] at UT AVz U9z Xz HZ ⊢
      clear hS2 u9z U9 AV6 US6 X6 GT hwz
      go_wp2
      go_loopw [17, 89] (fun vo vk wx => ∃ k : Nat, k ≤ 64 ∧ vk = .int .i64 (k : Int) ∧ Row wz.heap.size wx vo ((List.range k).map (byteAt S2 S0)) ∧ Below wz.heap.size wz wx) (fun _ vk _ => 64 - (intOf vk).toNat)
      case atStart => exact ⟨0, by omega, rfl, Row.nil _ _, Below.refl _ _⟩
      case round =>
        obtain ⟨k, hk, rfl, ro, bo⟩ := hrel
        have RO := Lib.hid ro
        have BO := Lib.hid bo
        clear ro bo
        by_cases hlt : k < 64
        · have ct : decide ((k : Int) < 64) = true := decide_eq_true (by omega)
          go_upto_region 28 with (fail)
          obtain ⟨j, hj⟩ : ∃ j, k / 4 = j := ⟨_, rfl⟩
          obtain ⟨i, hi⟩ : ∃ i, k % 4 = i := ⟨_, rfl⟩
          have d1 : (k : Int).tdiv 4 = (j : Int) := by rw [Int.tdiv_eq_ediv_of_nonneg (by omega)]; omega
          have d2 : (k : Int) / 4 = (j : Int) := by omega
          have m1 : (k : Int).tmod 4 = (i : Int) := by rw [Int.tmod_eq_emod_of_nonneg (by omega)]; omega
          have m2 : (k : Int) % 4 = (i : Int) := by omega
          have hj16 : j < 16 := by omega
          have ij : (j : Int) < 16 := by omega
          have wj : IntKind.i64.wrap (j : Int) = (j : Int) := IntWalk.i64_in _ (by omega)
          have wi : IntKind.i64.wrap (i : Int) = (i : Int) := IntWalk.i64_in _ (by omega)
          have wsh : IntKind.i64.wrap (8 * (i : Int)) = ((8 * i : Nat) : Int) := by rw [IntWalk.i64_in _ (by omega)]; omega
          obtain ⟨sh, hsh⟩ : ∃ sh, 8 * i = sh := ⟨_, rfl⟩
          rw [hsh] at wsh
          obtain ⟨y, hy⟩ : ∃ y, byteAt S2 S0 k = y := ⟨_, rfl⟩
          have HNx := Lib.hid (show (List.range (k + 1)).map (byteAt S2 S0) = (List.range k).map (byteAt S2 S0) ++ [y] by rw [List.range_succ, List.map_append, ← hy]; rfl)
          unfold byteAt at hy
          rw [hj, hi, hsh] at hy
          have cg := AVz.out.cell 0
          obtain ⟨r', er, -, -, -, -, hcs, -⟩ := UT.out.place (by rw [HL2.out]; decide)
          obtain ⟨rfl⟩ : r' = r := by cases er; rfl
          obtain ⟨r9', er9, -, -, -, -, hcw, -⟩ := U9z.out.place (by rw [HSl.out]; decide)
          obtain ⟨rfl⟩ : r9' = r9 := by cases er9; rfl
          have c1 := hcs j (by rw [HL2.out]; exact hj16)
          have c2 := hcw j (by rw [HSl.out]; exact hj16)
          have e1 : S2[j]'(by rw [HL2.out]; exact hj16) = S2.getD j 0 := by rw [List.getD_eq_getElem?_getD, List.getElem?_eq_getElem (by rw [HL2.out]; exact hj16)]; rfl
          have e2 : S0[j]'(by rw [HSl.out]; exact hj16) = S0.getD j 0 := by rw [List.getD_eq_getElem?_getD, List.getElem?_eq_getElem (by rw [HSl.out]; exact hj16)]; rfl
          rw [e1] at c1
          rw [e2] at c2
          obtain ⟨x1, hx1⟩ : ∃ x, S2.getD j 0 = x := ⟨_, rfl⟩
          obtain ⟨x2, hx2⟩ : ∃ x, S0.getD j 0 = x := ⟨_, rfl⟩
          rw [hx1] at c1 hy
          rw [hx2] at c2 hy
          obtain ⟨z, hz⟩ : ∃ z, (x1 + x2) % 4294967296 = z := ⟨_, rfl⟩
          rw [hz] at hy
          have wz1 : IntKind.u32.wrap ((x1 : Int) + (x2 : Int)) = (z : Int) := by rw [IntKind.wrap_u32]; omega
          have wy : IntKind.u8.wrap ((z : Int) / 2 ^ sh) = (y.toNat : Int) := by
            rw [← hy, UInt8.toNat_ofNat', IntKind.wrap_u8]
            push_cast
            rfl
          have wy' : IntKind.u8.wrap ((z : Int) / 2 ^ (min sh 32)) = (y.toNat : Int) := by rw [Nat.min_eq_left (by omega)]; exact wy
          have CG : ∀ x : Ab wz, x.val.cell? ⟨g, 0, none⟩ = some (.slice (some ⟨r, 0, none⟩) 16 d5) := fun x => (x.property.cell (World.block_lt_of_cell? _ _ cg)).trans cg
          have C1 : ∀ x : Ab wz, x.val.cell? ⟨r, j, none⟩ = some (.int .u32 (x1 : Int)) := fun x => (x.property.cell (World.block_lt_of_cell? _ _ c1)).trans c1
          have C2 : ∀ x : Ab wz, x.val.cell? ⟨r9, j, none⟩ = some (.int .u32 (x2 : Int)) := fun x => (x.property.cell (World.block_lt_of_cell? _ _ c2)).trans c2
          have hab := ab wz
          clear er hcs er9 hcw c1 c2 cg e1 e2 hx1 hx2 hz hy hj hi hsh
          have x0 := BO.out.drew
          have ro0 := RO.out.drew
          obtain ⟨L, hL⟩ : ∃ L, (List.range k).map (byteAt S2 S0) = L := ⟨_, rfl⟩
          have HLL := Lib.hid (show L.length ≤ 64 by rw [← hL, List.length_map, List.length_range]; omega)
          rw [hL] at HNx ro0
          obtain ⟨V0, hV0⟩ : ∃ x, wr.drew = x := ⟨_, rfl⟩
          have HV0 := Lib.hid hV0
          clear hL
          refine wp_region_tree (.read 0 (.read 1 (.read 2 (.read 3 (.read 4 (.read 5 (.read 6 (.read 7 (.read 8 (.read 9 (.read 10 (.read 11 (.read 12 (.read 13 (.read 14 (.read 15 (.read 16 (.step 17 (.step 18 (.read 19 .done)))))))))))))))))))) (fun W => ∃ x : Ab wz, W = x.val) (by kernel_rfl) (by kernel_rfl) (by decide) (fun _ _ d _ _ h => by cases d <;> exact h) (Cl.of x0) ?_
          rw [hV0] at x0 ro0 ⊢
          clear hV0
          iterate 17 (refine tree_read rfl (fun K hK => ?_); go_simp; refine hK _ ?_; clear hK K)
          have s1 := lits V0 [y] #[.int .u8 (y.toNat : Int)] rfl (0, 0) (V0.heap.size + 1) (Nat.lt_succ_self _)
          have b1 := (Below.refl V0.heap.size V0).alloc (Nat.le_refl _) (.cells #[.int .u8 (y.toNat : Int)] 5)
          have ro1 := ro0.below b1
          obtain ⟨V1, hV1⟩ : ∃ V1, V0.alloc (.cells #[.int .u8 (y.toNat : Int)] 5) = V1 := ⟨_, rfl⟩
          have hz1 : V1.heap.size = V0.heap.size + 1 := by rw [← hV1]; simp
          rw [hV1] at s1 b1 ro1
          rw [← hz1] at s1
          have x1' := x0.trans (b1.mono x0.size)
          refine tree_step rfl (Cl.of x0) (fun K hK => ?_)
          go_simp
          refine hK _ _ ⟨Cl.of x1', ?_⟩
          clear hK K hV1
          obtain ⟨v2, V2, hr2, r2, gr2⟩ := run_appN V1 wz.heap.size V1.heap.size 22 u17 L ro1 ⟨V0.heap.size, 0, none⟩ [y] 1 1 rfl s1 (by have := HLL.out; simp; omega) x1'.size
          have x2' := x1'.trans (below_other gr2 x1'.size (fun kk hkk => (World.ownsRow.lt ro1 kk hkk).1))
          rw [← HNx.out] at r2
          refine tree_step rfl (Cl.of x1') (fun K hK => want rfl ?_)
          refine Lib.wp_append_run V1 (.tmp 92) (.tmp 109) 22 22 rfl u17 (.slice (some ⟨V0.heap.size, 0, none⟩) 1 1) rfl rfl v2 V2 hr2 ?_
          refine hK _ _ ⟨Cl.of x2', ?_⟩
          clear hK K hr2 gr2 ro1 s1 ro0
          refine tree_read rfl (fun K hK => ?_)
          go_simp
          refine hK _ ?_
          clear hK K
          refine tree_done ?_
          have R2 := Lib.hid r2
          have B2 := Lib.hid x2'
          clear r2 x2' x1' x0 hab b1 CG C1 C2
          go_wp2
          go_roundw
          case rel =>
            repeat apply Exists.intro
            exact ⟨⟨k + 1, by omega, by go_num, R2.out, B2.out⟩, rfl⟩
          case measure => simp [intOf]; omega
        · obtain rfl : k = 64 := by omega
          have ct : decide (((64 : Nat) : Int) < 64) = false := rfl
          have hbl := HBl.out
          rw [← hbl] at RO
          have hxg : w.heap.size = g := HG.out
          have RF := Lib.hid (RO.out.base (show w.heap.size ≤ wz.heap.size by rw [hxg]; exact HZ.out))
          have XF : Hid (Below w.heap.size w _) := Lib.hid (by rw [hxg]; exact Xz.out.trans (BO.out.mono HZ.out))
          clear hbl hxg
          go_wp2
          go_ret
          exact ⟨_, rfl, RF.out, XF.out⟩
end Go.Proofs.Ytohpgfefdlccmaa.StreamBlockW
