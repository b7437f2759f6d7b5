/-
  ticketwardref.HMix: what it hands back. Conditions: in the statement.
-/
import Derived.Test.YtohpgfefdlccmaaStreamBlock
namespace Go.Proofs.Ytohpgfefdlccmaa.StreamMixW
open Go.RowKit BytesW CellsW WordsW ArrW ArrG HashM StreamM StreamPutW StreamBlockW

/-- The first k bytes mixed. -/
def mixT (key nonce : List UInt8) (n : Int) (b : List UInt8) (k : Nat) : List UInt8 := (List.range k).map fun i => b.getD i 0 ^^^ streamAt key nonce n i
theorem mixT_len (key nonce : List UInt8) (n : Int) (b : List UInt8) (k : Nat) : (mixT key nonce n b k).length = k := by simp [mixT]
theorem mixT_succ (key nonce : List UInt8) (n : Int) (b : List UInt8) (k : Nat) (h : k < b.length) : mixT key nonce n b (k + 1) = mixT key nonce n b k ++ [b[k] ^^^ streamAt key nonce n k] := by
  unfold mixT
  rw [List.range_succ, List.map_append, List.map_cons, List.map_nil, List.getD_eq_getElem?_getD, List.getElem?_eq_getElem h]
  rfl
theorem mixT_all (key nonce : List UInt8) (n : Int) (b : List UInt8) : mixT key nonce n b b.length = mix key nonce n b := by
  apply List.ext_getElem?
  intro i
  unfold mixT mix
  rw [List.getElem?_map, List.getElem?_mapIdx]
  by_cases h : i < b.length
  · have e : b.getD i 0 = b[i] := by rw [List.getD_eq_getElem?_getD, List.getElem?_eq_getElem h]; rfl
    rw [List.getElem?_range h, List.getElem?_eq_getElem h, Option.map_some, Option.map_some, e]
  · rw [List.getElem?_eq_none (by simpa using h), List.getElem?_eq_none (by simpa using h)]
    rfl

set_option maxHeartbeats 8000000 in
set_option maxRecDepth 100000 in
theorem hmix_any (A : Option Addr) (key : List UInt8) (c : Nat) (A' : Option Addr) (nonce : List UInt8) (c' : Nat) (n : Int) (A2 : Option Addr) (b : List UInt8) (c2 : Nat) (w : World) (hA : Bs w w.heap.size A key) (hk : key.length = 32) (hB : Bs w w.heap.size A' nonce) (hn : nonce.length = 12) (hC : Bs w w.heap.size A2 b) (hb : b.length ≤ 1048576) (hn1 : -4611686018427387904 ≤ n) (hn2 : n ≤ 4611686018427387904) :
    Calls Try.prog 18 #[.slice A key.length c, .slice A' nonce.length c', .int .i64 n, .slice A2 b.length c2] w fun e w' => ∃ v, e = .returned v ∧ Row w.heap.size w' v (mix key nonce n b) ∧ Below w.heap.size w w' := by
  have HA := Lib.hid hA
  have HB := Lib.hid hB
  have HC := Lib.hid hC
  have HK := Lib.hid hk
  have HN := Lib.hid hn
  clear hA hB hC hk hn
  go_enter Try.func18, Try.ntmps18
  go_wp2
  go_loopw [9, 10, 15] (fun vr vo vk wr => ∃ (k : Nat) (Ar : Option Addr) (cr nr : Nat), k ≤ b.length ∧ vk = .int .i64 (k : Int) ∧ Row w.heap.size wr vo (mixT key nonce n b k) ∧ Below w.heap.size w wr ∧ vr = .slice Ar nr cr ∧ (0 < k → nr = 64 ∧ Bs wr wr.heap.size Ar (block key nonce (n + ((k - 1) / 64 : Nat))) ∧ ∀ ad, Ar = some ad → vo.ownBlock ≠ some ad.block)) (fun _ _ vk _ => b.length - (intOf vk).toNat)
  case atStart => exact ⟨0, none, 0, 0, by omega, rfl, Row.nil _ _, Below.refl _ _, rfl, fun h => absurd h (by omega)⟩
  case round =>
    obtain ⟨k, Ar, cr, nr, hk, rfl, ro, bx, rfl, hrow⟩ := hrel
    have RO := Lib.hid ro
    have BX := Lib.hid bx
    have HRw := Lib.hid hrow
    clear ro bx hrow
    by_cases hlt : k < b.length
    · have ct : decide ((k : Int) < (b.length : Int)) = true := decide_eq_true (by omega)
      obtain ⟨ad, rfl, hadb, cx⟩ := HC.out.at_ hlt
      have cx1 := (BX.out.cell (p := ad.add k) (by rw [add_block]; exact hadb)).trans cx
      have HNx := Lib.hid (mixT_succ key nonce n b k hlt)
      obtain ⟨x, hx⟩ : ∃ x, b[k] = x := ⟨_, rfl⟩
      rw [hx] at cx1 HNx
      obtain ⟨q, hq⟩ : ∃ q, k / 64 = q := ⟨_, rfl⟩
      obtain ⟨i, hi⟩ : ∃ i, k % 64 = i := ⟨_, rfl⟩
      have hi64 : i < 64 := by omega
      have HSa := Lib.hid (show streamAt key nonce n k = (block key nonce (n + (q : Nat))).getD i 0 by unfold streamAt; rw [hq, hi])
      obtain ⟨Bk, hBk⟩ : ∃ Bk, block key nonce (n + (q : Nat)) = Bk := ⟨_, rfl⟩
      have HBl := Lib.hid (show Bk.length = 64 by rw [← hBk]; exact block_len _ _ _)
      rw [hBk] at HSa
      have HBk := Lib.hid hBk
      have Hq := Lib.hid hq
      have Hi := Lib.hid hi
      have m1 : (k : Int).tmod 64 = (i : Int) := by rw [Int.tmod_eq_emod_of_nonneg (by omega)]; omega
      have m2 : (k : Int) % 64 = (i : Int) := by omega
      clear cx hx hq hi hBk
      go_upto_region 5 with (fail)
      rename_i K7 h7 K5 h5
      have H7 : ∀ (A9 : Option Addr) (c9 : Nat) (V : World) (z20 z21 z22 z23 z24 z25 z26 z27 z28 z29 : Value), Bs V V.heap.size A9 Bk → (∀ ad, A9 = some ad → u10.ownBlock ≠ some ad.block) → Row w.heap.size V u10 (mixT key nonce n b k) → Below w.heap.size w V → K7 { tmps := #[.slice A key.length c, .slice A' nonce.length c', .int .i64 n, .slice (some ad) b.length c2, undef, undef, undef, undef, .slice none 0 0, .slice A9 64 c9, u10, .int .i64 (k : Int), .int .u8 (x.toNat : Int), .slice (some ad) b.length c2, .int .i64 (b.length : Int), .int .i64 (k : Int), .bool true, .int .i64 (k : Int), .pointer (some (ad.add k)), .int .u8 (x.toNat : Int), z20, z21, z22, z23, z24, z25, z26, z27, z28, z29, u30, u31, u32, u33, u34, u35, u36, u37, u38, u39, u40, undef], defers := [] } V := by
        intro A9 c9 V z20 z21 z22 z23 z24 z25 z26 z27 z28 z29 hbs hap hro hbe
        have RO1 := Lib.hid hro
        have BE1 := Lib.hid hbe
        have BS1 := Lib.hid hbs
        obtain ⟨ad9, rfl, hb9, cy⟩ := hbs.at_ (k := i) (by rw [HBl.out]; exact hi64)
        have hap9 := hap ad9 rfl
        have HAp := Lib.hid hap9
        have e1 : Bk[i]'(by rw [HBl.out]; exact hi64) = Bk.getD i 0 := by rw [List.getD_eq_getElem?_getD, List.getElem?_eq_getElem (by rw [HBl.out]; exact hi64)]; rfl
        rw [e1, ← HSa.out] at cy
        obtain ⟨y, hy⟩ : ∃ y, streamAt key nonce n k = y := ⟨_, rfl⟩
        rw [hy] at cy HNx
        have hX := Bits.xor_u8 x y
        obtain ⟨z, hz⟩ : ∃ z, x ^^^ y = z := ⟨_, rfl⟩
        rw [hz] at hX HNx
        have ii : (i : Int) < 64 := by omega
        have r1 := Lib.hid (hro.alloc (.cells #[.int .u8 (z.toNat : Int)] 5))
        have nb := Lib.hid (new_cell V (.int .u8 (z.toNat : Int)) 5)
        have HL := Lib.hid (show (mixT key nonce n b k).length + 1 ≤ 140737488355328 by rw [mixT_len]; omega)
        have hsz := hbe.size
        clear hbs hap hro hbe hap9 e1 hy hz
        refine h7 _ _ ?_
        go_wp2_with (at_builtin; go_must (refine app1g rfl (.tmp 30) (.tmp 38) rfl w.heap.size u10 _ rfl r1.out ⟨V.heap.size, 0, none⟩ 1 z rfl nb.out HL.out (by simp; omega) ?_))
        intro v2 V2 r2 g2 o2
        rw [← HNx.out] at r2
        have b1 := (Below.refl V.heap.size V).alloc (Nat.le_refl _) (.cells #[.int .u8 (z.toNat : Int)] 5)
        have hap1 : ∀ ad, (some ad9 : Option Addr) = some ad → u10.ownBlock ≠ some ad.block := fun ad e => by cases e; exact HAp.out
        have BS2 := Lib.hid (bs_other ((BS1.out.below b1).more b1.size) g2 (fun _ => hap1))
        have BE2 := Lib.hid ((BE1.out.trans (b1.mono hsz)).trans (below_other g2 (Nat.le_trans hsz b1.size) (fun kk hkk => (World.ownsRow.lt r1.out kk hkk).1)))
        have HA2 := Lib.hid (show ∀ ad, (some ad9 : Option Addr) = some ad → v2.ownBlock ≠ some ad.block from fun ad e he => by
          cases e
          rcases o2 with h | h
          · rw [h] at he; exact HAp.out he
          · have := h _ he; omega)
        have R2 := Lib.hid r2
        clear r2 g2 o2 b1 hap1 cy hX
        go_wp2
        go_roundw
        case rel => exact ⟨k + 1, some ad9, c9, 64, by omega, by go_num, R2.out, BE2.out, rfl, fun _ => ⟨rfl, by rw [show (k + 1 - 1) / 64 = q by rw [Nat.add_sub_cancel]; exact Hq.out, HBk.out]; exact BS2.out, HA2.out⟩⟩
        case measure => simp [intOf]; omega
      have HH := Lib.hid H7
      clear H7 h7
      by_cases hi0 : i = 0
      · have ct2 : ((i : Int) == 0) = true := by rw [beq_iff_eq]; omega
        have d1 : (k : Int).tdiv 64 = (q : Int) := by have := Hq.out; rw [Int.tdiv_eq_ediv_of_nonneg (by omega)]; omega
        have d2 : (k : Int) / 64 = (q : Int) := by have := Hq.out; omega
        have wq : IntKind.i64.wrap (q : Int) = (q : Int) := IntWalk.i64_in _ (by have := Hq.out; omega)
        have wn : IntKind.i64.wrap (n + (q : Int)) = n + (q : Int) := IntWalk.i64_in _ (by have := Hq.out; omega)
        have hbl := hblock_any A key c A' nonce c' (n + (q : Int)) wr ((HA.out.below BX.out).more BX.out.size) HK.out ((HB.out.below BX.out).more BX.out.size) HN.out
        rw [HBk.out] at hbl
        have HBo := Lib.hid hbl
        clear hbl hi0
        go_wp2_with fail
        refine HBo.out.mono ?_
        clear HBo
        rintro e V ⟨v9, rfl, r9, b9⟩
        obtain ⟨A9, c9, rfl, s9, -⟩ := r9.form2
        obtain ⟨g9, rfl, -, hg9, -, -, -⟩ := r9.place (by rw [HBl.out]; decide)
        have S9 := Lib.hid s9
        have RO9 := Lib.hid (RO.out.below b9)
        have BE9 := Lib.hid (BX.out.trans (b9.mono BX.out.size))
        have HAp := Lib.hid (show ∀ ad, (some ⟨g9, 0, none⟩ : Option Addr) = some ad → u10.ownBlock ≠ some ad.block from fun ad e he => by
          cases e
          have := (World.ownsRow.lt RO.out _ he).2
          simp only at this
          omega)
        rw [HBl.out]
        clear r9 s9 b9 hg9
        go_wp2
        exact HH.out (some ⟨g9, 0, none⟩) c9 V _ _ _ _ _ _ _ _ _ _ S9.out HAp.out RO9.out BE9.out
      · have ct2 : ((i : Int) == 0) = false := by rw [beq_eq_false_iff_ne]; omega
        obtain ⟨rfl, hbs, hap⟩ := HRw.out (by have := Hi.out; omega)
        rw [show (k - 1) / 64 = q by have := Hq.out; have := Hi.out; omega, HBk.out] at hbs
        have HBs := Lib.hid hbs
        have HAp := Lib.hid hap
        clear hbs hap hi0
        go_wp2
        exact HH.out Ar cr wr _ _ _ _ _ _ _ _ _ _ HBs.out HAp.out RO.out BX.out
    · obtain rfl : k = b.length := by omega
      have ct : decide ((b.length : Int) < (b.length : Int)) = false := decide_eq_false (by omega)
      have ro := RO.out
      rw [mixT_all] at ro
      have RF := Lib.hid ro
      clear ro
      go_wp2
      go_ret
      exact ⟨_, rfl, RF.out, BX.out⟩
end Go.Proofs.Ytohpgfefdlccmaa.StreamMixW
