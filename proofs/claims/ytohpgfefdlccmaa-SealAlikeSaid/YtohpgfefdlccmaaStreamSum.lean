/-
  stream.Mix: what it hands back. Conditions: in the statement.
-/
import Derived.Test.YtohpgfefdlccmaaStreamFns
namespace Go.Proofs.Ytohpgfefdlccmaa.StreamSumW
open Go.RowKit BytesW CellsW WordsW ArrW ArrG HashM HashTurnW StreamM StreamStepW StreamWW StreamRoundsW StreamProduceW StreamStartW StreamMixW

/-- The first k bytes mixed, noughts behind them. -/
def mixO (key nonce : List UInt8) (n : Int) (b : List UInt8) (k : Nat) : List UInt8 := mixT key nonce n b k ++ List.replicate (b.length - k) 0
theorem mixO_zero (key nonce : List UInt8) (n : Int) (b : List UInt8) : mixO key nonce n b 0 = List.replicate b.length 0 := by simp [mixO, mixT]
theorem mixO_len (key nonce : List UInt8) (n : Int) (b : List UInt8) (k : Nat) (h : k ≤ b.length) : (mixO key nonce n b k).length = b.length := by
  unfold mixO
  rw [List.length_append, mixT_len, List.length_replicate]; omega
theorem mixO_set (key nonce : List UInt8) (n : Int) (b : List UInt8) (k : Nat) (h : k < b.length) : (mixO key nonce n b k).set k (b[k] ^^^ streamAt key nonce n k) = mixO key nonce n b (k + 1) := by
  unfold mixO
  rw [List.set_append, if_neg (by rw [mixT_len]; omega), mixT_len, Nat.sub_self, show b.length - k = (b.length - (k + 1)) + 1 by omega, List.replicate_succ, List.set_cons_zero, mixT_succ key nonce n b k h, List.append_assoc]
  rfl
theorem mixO_all (key nonce : List UInt8) (n : Int) (b : List UInt8) : mixO key nonce n b b.length = mix key nonce n b := by
  unfold mixO
  rw [Nat.sub_self, mixT_all]
  simp

theorem start_at (key nonce : List UInt8) (n : Int) (h : key.length = 32) : (StreamM.start key nonce n).getD 12 0 = (n % 4294967296).toNat := by
  have hl : (lwords sigma ++ lwords key).length = 12 := by rw [List.length_append, lwords_len, lwords_len, h]; rfl
  unfold StreamM.start
  rw [List.append_assoc, List.getD_eq_getElem?_getD, List.getElem?_append_right (by omega), hl]
  rfl
theorem start_next (key nonce : List UInt8) (n : Int) (h : key.length = 32) : (StreamM.start key nonce n).set 12 ((n + 1) % 4294967296).toNat = StreamM.start key nonce (n + 1) := by
  have hl : (lwords sigma ++ lwords key).length = 12 := by rw [List.length_append, lwords_len, lwords_len, h]; rfl
  unfold StreamM.start
  rw [List.append_assoc, List.set_append, if_neg (by omega), hl]
  simp
theorem made_bytes (c : Nat) : madeCells #[.int .u8 0] c = (Lib.byteCells (List.replicate c 0)).toArray := by
  apply Array.toList_inj.1
  rw [toList_madeCells_one]
  simp [Lib.byteCells]

/-- What Mix hands back is the call's own. -/
def PostRow (r : List UInt8 × Int) (w : World) (e : Ending) (w' : World) : Prop :=
  ∃ v, e = .returned (.tuple #[v, .int .i64 r.2]) ∧ Row w.heap.size w' v r.1 ∧ Below w.heap.size w w'
theorem row_arr {w : World} {g B : Nat} {l : List UInt8} (h : Arr w g 5 (Lib.byteCells l)) (n : Nat) (hn : l.length = n) (hB : B ≤ g) (hm : n ≤ maxLen) : Row B w (.slice (some ⟨g, 0, none⟩) n n) l := by
  subst hn
  unfold Row
  exact ⟨by simp [Lib.byteCells], .inr ⟨g, l.length, _, rfl, hB, h, Nat.le_refl _, hm, by simp [Lib.byteCells], by rw [List.take_of_length_le (by simp [Lib.byteCells])]⟩⟩

set_option maxHeartbeats 8000000 in
set_option maxRecDepth 100000 in
theorem smix_row (A : Option Addr) (key : List UInt8) (c : Nat) (A' : Option Addr) (nonce : List UInt8) (c' : Nat) (n : Int) (C : Option Addr) (b : List UInt8) (k0 : Nat) (w : World) (hA : Bs w w.heap.size A key) (_hc : key.length ≤ c) (hB : Bs w w.heap.size A' nonce) (_hd : nonce.length ≤ c') (hC : Bs w w.heap.size C b) (_hbk : b.length ≤ k0) (_hk : key.length ≤ 140737488351232) (_hn : nonce.length ≤ 140737488351232) (hb : b.length ≤ 140737488351232) (_hn1 : -9223372036854775808 ≤ n) (_hn2 : n < 9223372036854775808) :
    Calls Try.prog 14 #[.slice A key.length c, .slice A' nonce.length c', .int .i64 n, .slice C b.length k0] w fun e w' => PostRow (mixM key nonce n b) w e w' := by
  have HA := Lib.hid hA
  have HB := Lib.hid hB
  have HCb := Lib.hid hC
  have HF := Lib.hid (formed_any A key c A' nonce c' w)
  have HC := Lib.hid (counted_any n w)
  obtain ⟨r, hr⟩ : ∃ r, mixM key nonce n b = r := ⟨_, rfl⟩
  rw [hr]
  have HR := Lib.hid hr
  clear hA hB hC hr
  go_enter Try.func14, Try.ntmps14
  go_wp2_with fail
  refine HF.out.mono ?_
  clear HF
  rintro e w1 ⟨rfl, rfl⟩
  by_cases h1 : key.length = 32 ∧ nonce.length = 12
  · rw [decide_eq_true h1]
    have HK := Lib.hid h1.1
    have HN := Lib.hid h1.2
    clear h1
    go_wp2_with fail
    refine HC.out.mono ?_
    clear HC
    rintro e w1 ⟨rfl, rfl⟩
    by_cases h2 : 0 ≤ n ∧ n < 4294967296
    · rw [decide_eq_true h2]
      by_cases h3 : 16384 < b.length
      · have t3 : decide ((b.length : Int) > 16384) = true := decide_eq_true (by omega)
        have hr := HR.out
        unfold mixM at hr
        rw [if_neg (by rw [HK.out, HN.out]; decide), if_pos (by omega)] at hr
        subst hr
        clear h2 h3
        go_wp2
        go_ret2
        exact ⟨_, rfl, Row.nil _ _, Below.refl _ _⟩
      · have t3 : decide ((b.length : Int) > 16384) = false := decide_eq_false (by omega)
        have HEn := Lib.hid (enough_any n b.length h2.1 h2.2 (by omega) w)
        have HL := Lib.hid (show b.length ≤ 16384 by omega)
        have Hn0 := Lib.hid h2.1
        have Hn1 := Lib.hid h2.2
        clear h2 h3
        go_wp2_with fail
        refine HEn.out.mono ?_
        clear HEn
        rintro e w1 ⟨rfl, rfl⟩
        by_cases h4 : (b.length : Int) ≤ 64 * (4294967296 - n)
        · rw [decide_eq_true h4]
          have hr := HR.out
          unfold mixM at hr
          rw [if_neg (by rw [HK.out, HN.out]; decide), if_neg (by have := HL.out; have := Hn0.out; have := Hn1.out; omega)] at hr
          have HR2 := Lib.hid hr
          have H4 := Lib.hid h4
          have HS := Lib.hid (start_any A key c A' nonce c' n w HA.out HK.out HB.out HN.out)
          have hmk := fun u : World => makeN b.length (by have := HL.out; omega) u
          clear hr HR h4 HA HB t3
          go_wp2_with fail
          refine HS.out.mono ?_
          clear HS
          rintro e w2 ⟨rfl, b2⟩
          have HB2 := Lib.hid b2
          have NS := Lib.hid (show (wc (StreamM.start key nonce n)).length = 16 by rw [wc_length]; exact start_len key nonce n HK.out HN.out)
          obtain ⟨S, hS⟩ : ∃ S, StreamM.start key nonce n = S := ⟨_, rfl⟩
          have HS := Lib.hid hS
          rw [hS] at NS ⊢
          clear b2 hS
          go_upto_region 6 with (refine Arr.storeL (Arr.new w2 _ _) rfl 50 (.tmp 10) (.tmp 37) rfl rfl (wc S) rfl words_size (by rfl) NS.out (wc_one _) ?_)
          generalize hw3 : World.setRow _ _ _ = w3
          obtain ⟨a3, b3, z3⟩ := filled hw3
          obtain ⟨g, hg⟩ : ∃ g, w2.heap.size = g := ⟨_, rfl⟩
          have HG := Lib.hid (show w.heap.size ≤ g by rw [← hg]; exact HB2.out.size)
          have HB3 := Lib.hid (HB2.out.trans (b3.mono HB2.out.size))
          rw [hg] at a3 z3
          simp only [hg]
          have A3 := Lib.hid a3
          have HZ3 := Lib.hid z3
          clear a3 b3 z3 hw3 HB2 hg
          go_upto_region 7 with (fail)
          generalize hW : World.alloc _ _ = W
          obtain ⟨H4', b4, z4⟩ := start1 hW
          rw [HZ3.out] at H4' z4 ⊢
          have A4 : Hid (Arr W (g + 1) 52 (Lib.byteCells (List.replicate 64 0))) := Lib.hid H4'
          have A34 := Lib.hid (A3.out.below b4 A3.out.lt)
          have HB4 := Lib.hid (HB3.out.trans (b4.mono HB3.out.size))
          have HZ4 := Lib.hid z4
          clear H4' b4 z4 hW A3 HB3 HZ3
          go_upto_region 8 with (fail)
          rw [made_bytes]
          generalize hX : World.alloc _ _ = X
          obtain ⟨H5', b5, z5⟩ := start1 hX
          rw [HZ4.out] at H5' z5 ⊢
          have A5 : Hid (Arr X (g + 2) 5 (Lib.byteCells (mixO key nonce n b 0))) := Lib.hid (by rw [mixO_zero]; exact H5')
          have A45 := Lib.hid (A4.out.below b5 A4.out.lt)
          have A35 := Lib.hid (A34.out.below b5 A34.out.lt)
          have HB5 := Lib.hid (HB4.out.trans (b5.mono HB4.out.size))
          have HZ5 := Lib.hid z5
          clear H5' b5 z5 hX A4 A34 HB4 HZ4 hmk
          have HXs : Hid (StreamM.start key nonce (n + (((0 + 63) / 64 : Nat) : Int)) = S) := Lib.hid (by rw [show (((0 + 63) / 64 : Nat) : Int) = 0 from rfl, Int.add_zero]; exact HS.out)
          have hbl : b.length ≤ 16384 := HL.out
          go_wp2
          go_loopw [43] (fun vk wr => ∃ k : Nat, k ≤ b.length ∧ vk = .int .i64 (k : Int) ∧ Arr wr g 50 (wc (StreamM.start key nonce (n + (((k + 63) / 64 : Nat) : Int)))) ∧ (∃ Bk : List UInt8, Bk.length = 64 ∧ Arr wr (g + 1) 52 (Lib.byteCells Bk) ∧ (0 < k → Bk = block key nonce (n + (((k - 1) / 64 : Nat) : Int)))) ∧ Arr wr (g + 2) 5 (Lib.byteCells (mixO key nonce n b k)) ∧ Below w.heap.size w wr) (fun vk _ => b.length - (intOf vk).toNat)
          case atStart => exact ⟨0, by omega, rfl, by rw [HXs.out]; exact A35.out, ⟨_, by simp, A45.out, fun h => absurd h (by omega)⟩, A5.out, HB5.out⟩
          case round =>
            clear A35 A45 A5 HB5 HXs
            obtain ⟨k, hk, rfl, aw, ⟨Bo, hBo, ab, hbo⟩, ao, bw⟩ := hrel
            have AS := Lib.hid aw
            have AB := Lib.hid ab
            have AO := Lib.hid ao
            have BW := Lib.hid bw
            have HBo := Lib.hid hbo
            have HBl := Lib.hid hBo
            clear aw ab ao bw hbo hBo
            by_cases hlt : k < b.length
            · have ct : decide ((k : Int) < (b.length : Int)) = true := decide_eq_true (by omega)
              obtain ⟨ad, rfl, hadb, cx⟩ := HCb.out.at_ hlt
              have cx1 := (BW.out.cell (p := ad.add k) (by rw [add_block]; exact hadb)).trans cx
              have hset := mixO_set key nonce n b k hlt
              obtain ⟨x, hx⟩ : ∃ x, b[k] = x := ⟨_, rfl⟩
              rw [hx] at cx1 hset
              obtain ⟨q, hq⟩ : ∃ q, k / 64 = q := ⟨_, rfl⟩
              obtain ⟨i, hi⟩ : ∃ i, k % 64 = i := ⟨_, rfl⟩
              have hi64 : i < 64 := by omega
              have hsa : streamAt key nonce n k = (block key nonce (n + (q : Nat))).getD i 0 := by unfold streamAt; rw [hq, hi]
              obtain ⟨Bk, hBk⟩ : ∃ Bk, block key nonce (n + (q : Nat)) = Bk := ⟨_, rfl⟩
              have HBkl := Lib.hid (show Bk.length = 64 by rw [← hBk]; exact block_len _ _ _)
              rw [hBk] at hsa
              rw [hsa] at hset
              have HSet := Lib.hid hset
              have HBk := Lib.hid hBk
              have Hq := Lib.hid hq
              have Hi := Lib.hid hi
              have m1 : (k : Int).tmod 64 = (i : Int) := by rw [Int.tmod_eq_emod_of_nonneg (by omega)]; omega
              have m2 : (k : Int) % 64 = (i : Int) := by omega
              clear cx hx hq hi hBk hset hsa
              by_cases hi0 : i = 0
              · have ct2 : ((i : Int) == 0) = true := by rw [beq_iff_eq]; omega
                have hkq : (k + 63) / 64 = q := by have := Hq.out; have := Hi.out; omega
                have hkn : (k + 1 + 63) / 64 = q + 1 := by have := Hq.out; have := Hi.out; omega
                rw [hkq] at AS
                have hs12 := start_at key nonce (n + (q : Int)) HK.out
                have hsn := start_next key nonce (n + (q : Int)) HK.out
                rw [show n + (q : Int) + 1 = n + (((k + 1 + 63) / 64 : Nat) : Int) by rw [hkn]; omega] at hsn
                have HSl := Lib.hid (start_len key nonce (n + (q : Int)) HK.out HN.out)
                have HSo := Lib.hid (start_ok key nonce (n + (q : Int)))
                have HBx := Lib.hid (show (List.range 64).map (byteAt (StreamM.rounds (StreamM.start key nonce (n + (q : Int))) 20) (StreamM.start key nonce (n + (q : Int)))) = Bk from HBk.out)
                obtain ⟨Sq, hSq⟩ : ∃ Sq, StreamM.start key nonce (n + (q : Int)) = Sq := ⟨_, rfl⟩
                rw [hSq] at AS hs12 hsn HSl HSo HBx
                have HSn := Lib.hid hsn
                obtain ⟨v, hv⟩ : ∃ v, ((n + (q : Int)) % 4294967296).toNat = v := ⟨_, rfl⟩
                obtain ⟨v1, hv1⟩ : ∃ v1, ((n + (((k + 1 + 63) / 64 : Nat) : Int)) % 4294967296).toNat = v1 := ⟨_, rfl⟩
                have wv : IntKind.u32.wrap ((v : Int) + 1) = (v1 : Int) := by rw [IntKind.wrap_u32, ← hv, ← hv1, hkn]; omega
                rw [hv] at hs12
                rw [hv1] at HSn
                have Hs12 := Lib.hid hs12
                have NSq := Lib.hid (show (wc Sq).length = 16 by rw [wc_length]; exact HSl.out)
                have NB := Lib.hid (show (Lib.byteCells Bk).length = 64 by rw [Lib.byteCells_length]; exact HBkl.out)
                have NBo := Lib.hid (show (Lib.byteCells Bo).length = 64 by rw [Lib.byteCells_length]; exact HBl.out)
                have HP := Lib.hid (produce_any Sq wr HSl.out HSo.out)
                rw [HBx.out] at HP
                clear hkq hkn hSq hsn hv hv1 hs12 hi0 HBo
                go_wp2_with (refine Arr.loadL AS.out rfl 50 (.tmp 10) rfl rfl words_u rfl words_size NSq.out ?_)
                refine HP.out.mono ?_
                clear HP
                rintro e V ⟨rfl, bv⟩
                have AS1 := Lib.hid (AS.out.below bv AS.out.lt)
                have AB1 := Lib.hid (AB.out.below bv AB.out.lt)
                have AO1 := Lib.hid (AO.out.below bv AO.out.lt)
                have BW1 := Lib.hid (BW.out.trans (bv.mono BW.out.size))
                clear bv cx1
                go_upto_region 13 with (refine Arr.storeL AB1.out rfl 52 (.tmp 11) (.tmp 52) rfl rfl (Lib.byteCells Bk) rfl a64_size NBo.out NB.out (bytes_one _) ?_)
                have AB2 := AB1.out.row (Lib.byteCells Bk)
                have AS2 := AS1.out.rowOther (g + 1) (Lib.byteCells Bk).toArray (show g ≠ g + 1 by omega)
                have AO2 := AO1.out.rowOther (g + 1) (Lib.byteCells Bk).toArray (show g + 2 ≠ g + 1 by omega)
                have BW2 := below_row BW1.out (show w.heap.size ≤ g + 1 by have := HG.out; omega) (Lib.byteCells Bk).toArray
                obtain ⟨V2, hV2⟩ : ∃ V2, V.setRow (g + 1) (Lib.byteCells Bk).toArray = V2 := ⟨_, rfl⟩
                rw [hV2] at AB2 AS2 AO2 BW2 ⊢
                have c12 := AS2.cell 12
                rw [wc_getD Sq 12 (by rw [HSl.out]; decide), Hs12.out] at c12
                have f12 := AS2.frozen 12
                have as3 := AS2.set 12 (.int .u32 (v1 : Int))
                rw [wc_set, HSn.out] at as3
                have AWx := Lib.hid as3
                have ABk := Lib.hid (AB2.other ⟨g, 12, none⟩ (.int .u32 (v1 : Int)) (show g ≠ g + 1 by omega))
                have AOx := Lib.hid (AO2.other ⟨g, 12, none⟩ (.int .u32 (v1 : Int)) (show g ≠ g + 2 by omega))
                have BWx := Lib.hid (BW2.trans (grownBelow (grownSet V2 g 12 (.int .u32 (v1 : Int))) (show w.heap.size ≤ g by have := HG.out; omega) BW2.size))
                clear AB2 AS2 AO2 BW2 as3 hV2 AS AB AO AS1 AB1 AO1 BW1 BW
                go_upto_region 14 with (fail)
                obtain ⟨V3, hV3⟩ : ∃ V3, V2.setCell ⟨g, 12, none⟩ (.int .u32 (v1 : Int)) = V3 := ⟨_, rfl⟩
                rw [hV3] at AWx ABk AOx BWx ⊢
                clear hV3 c12 f12 wv
                have cy := ABk.out.cell i
                rw [bs_getD Bk i (by rw [HBkl.out]; exact hi64)] at cy
                obtain ⟨y, hy⟩ : ∃ y, Bk.getD i 0 = y := ⟨_, rfl⟩
                rw [hy] at cy HSet
                have hX := Bits.xor_u8 x y
                obtain ⟨z, hz⟩ : ∃ z, x ^^^ y = z := ⟨_, rfl⟩
                rw [hz] at hX HSet
                have co := AOx.out.cell k
                rw [bs_getD _ k (by rw [mixO_len key nonce n b k (Nat.le_of_lt hlt)]; exact hlt)] at co
                have fo := AOx.out.frozen k
                generalize (mixO key nonce n b k).getD k 0 = old at co
                have an := AOx.out.set k (.int .u8 (z.toNat : Int))
                rw [bs_set, HSet.out] at an
                have AN := Lib.hid an
                have AWn := Lib.hid (AWx.out.other ⟨g + 2, k, none⟩ (.int .u8 (z.toNat : Int)) (show g + 2 ≠ g by omega))
                have ABn := Lib.hid (ABk.out.other ⟨g + 2, k, none⟩ (.int .u8 (z.toNat : Int)) (show g + 2 ≠ g + 1 by omega))
                have BWn := Lib.hid (BWx.out.trans (grownBelow (grownSet V3 (g + 2) k (.int .u8 (z.toNat : Int))) (show w.heap.size ≤ g + 2 by have := HG.out; omega) BWx.out.size))
                have ii : (i : Int) < 64 := by omega
                have ik : (k : Int) < (b.length : Int) := by omega
                clear hy hz an AOx AWx ABk BWx
                go_wp2
                go_roundw
                case rel => exact ⟨k + 1, by omega, by go_num, AWn.out, ⟨Bk, HBkl.out, ABn.out, fun _ => by rw [show (k + 1 - 1) / 64 = q by rw [Nat.add_sub_cancel]; exact Hq.out]; exact HBk.out.symm⟩, AN.out, BWn.out⟩
                case measure => simp [intOf]; omega
              · have ct2 : ((i : Int) == 0) = false := by rw [beq_eq_false_iff_ne]; omega
                have hk0 : 0 < k := by have := Hi.out; omega
                have hbo := HBo.out hk0
                rw [show (k - 1) / 64 = q by have := Hq.out; have := Hi.out; omega, HBk.out] at hbo
                rw [show (k + 63) / 64 = (k + 1 + 63) / 64 by have := Hq.out; have := Hi.out; omega] at AS
                rw [hbo] at AB
                have AWx := AS
                have ABk := AB
                have AOx := AO
                have BWx := BW
                clear AS AB AO BW hi0 hk0 HBo HBl hbo
                have cy := ABk.out.cell i
                rw [bs_getD Bk i (by rw [HBkl.out]; exact hi64)] at cy
                obtain ⟨y, hy⟩ : ∃ y, Bk.getD i 0 = y := ⟨_, rfl⟩
                rw [hy] at cy HSet
                have hX := Bits.xor_u8 x y
                obtain ⟨z, hz⟩ : ∃ z, x ^^^ y = z := ⟨_, rfl⟩
                rw [hz] at hX HSet
                have co := AOx.out.cell k
                rw [bs_getD _ k (by rw [mixO_len key nonce n b k (Nat.le_of_lt hlt)]; exact hlt)] at co
                have fo := AOx.out.frozen k
                generalize (mixO key nonce n b k).getD k 0 = old at co
                have an := AOx.out.set k (.int .u8 (z.toNat : Int))
                rw [bs_set, HSet.out] at an
                have AN := Lib.hid an
                have AWn := Lib.hid (AWx.out.other ⟨g + 2, k, none⟩ (.int .u8 (z.toNat : Int)) (show g + 2 ≠ g by omega))
                have ABn := Lib.hid (ABk.out.other ⟨g + 2, k, none⟩ (.int .u8 (z.toNat : Int)) (show g + 2 ≠ g + 1 by omega))
                have BWn := Lib.hid (BWx.out.trans (grownBelow (grownSet wr (g + 2) k (.int .u8 (z.toNat : Int))) (show w.heap.size ≤ g + 2 by have := HG.out; omega) BWx.out.size))
                have ii : (i : Int) < 64 := by omega
                have ik : (k : Int) < (b.length : Int) := by omega
                clear hy hz an AOx AWx ABk BWx
                go_wp2
                go_roundw
                case rel => exact ⟨k + 1, by omega, by go_num, AWn.out, ⟨Bk, HBkl.out, ABn.out, fun _ => by rw [show (k + 1 - 1) / 64 = q by rw [Nat.add_sub_cancel]; exact Hq.out]; exact HBk.out.symm⟩, AN.out, BWn.out⟩
                case measure => simp [intOf]; omega
            · obtain rfl : k = b.length := by omega
              have ct : decide ((b.length : Int) < (b.length : Int)) = false := decide_eq_false (by omega)
              rw [mixO_all] at AO
              have hml := mix_len key nonce n b
              obtain ⟨M, hM⟩ : ∃ M, mix key nonce n b = M := ⟨_, rfl⟩
              rw [hM] at AO HR2 hml
              have HM := Lib.hid hml
              clear hM hml
              go_wp2
              go_ret2
              have hr := HR2.out
              subst hr
              exact ⟨_, rfl, row_arr AO.out b.length HM.out (by have := HG.out; omega) (by unfold maxLen; omega), BW.out⟩
        · rw [decide_eq_false h4]
          have hr := HR.out
          unfold mixM at hr
          rw [if_neg (by rw [HK.out, HN.out]; decide), if_pos (by omega)] at hr
          subst hr
          clear h4
          go_wp2
          go_ret2
          exact ⟨_, rfl, Row.nil _ _, Below.refl _ _⟩
    · rw [decide_eq_false h2]
      have hr := HR.out
      unfold mixM at hr
      rw [if_neg (by rw [HK.out, HN.out]; decide), if_pos (by omega)] at hr
      subst hr
      clear h2
      go_wp2
      go_ret2
      exact ⟨_, rfl, Row.nil _ _, Below.refl _ _⟩
  · rw [decide_eq_false h1]
    have hr := HR.out
    unfold mixM at hr
    rw [if_pos (by omega)] at hr
    subst hr
    clear h1
    go_wp2
    go_ret2
    exact ⟨_, rfl, Row.nil _ _, Below.refl _ _⟩

/-- The same, as it reads. -/
theorem smix_any (A : Option Addr) (key : List UInt8) (c : Nat) (A' : Option Addr) (nonce : List UInt8) (c' : Nat) (n : Int) (C : Option Addr) (b : List UInt8) (k0 : Nat) (w : World) (hA : Bs w w.heap.size A key) (_hc : key.length ≤ c) (hB : Bs w w.heap.size A' nonce) (_hd : nonce.length ≤ c') (hC : Bs w w.heap.size C b) (_hbk : b.length ≤ k0) (_hk : key.length ≤ 140737488351232) (_hn : nonce.length ≤ 140737488351232) (hb : b.length ≤ 140737488351232) (_hn1 : -9223372036854775808 ≤ n) (_hn2 : n < 9223372036854775808) :
    Calls Try.prog 14 #[.slice A key.length c, .slice A' nonce.length c', .int .i64 n, .slice C b.length k0] w fun e w' => Post (mixM key nonce n b) w e w' := by
  refine (smix_row A key c A' nonce c' n C b k0 w hA _hc hB _hd hC _hbk _hk _hn hb _hn1 _hn2).mono ?_
  rintro e w' ⟨v, rfl, r, bl⟩
  obtain ⟨A2, d, rfl, s, hd⟩ := r.form2
  exact ⟨A2, d, rfl, hd, s, bl⟩
end Go.Proofs.Ytohpgfefdlccmaa.StreamSumW
