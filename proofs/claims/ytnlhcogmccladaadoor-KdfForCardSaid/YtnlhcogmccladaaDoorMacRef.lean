/-
  ticketwardref.FKey, FSum: what they hand back. Conditions: in each statement.
-/
import Derived.Test.YtnlhcogmccladaaDoorMacM
import Derived.Test.YtnlhcogmccladaaDoorHashRef
import Derived.Test.YtnlhcogmccladaaDoorKb
namespace Go.Proofs.YtnlhcogmccladaaDoor.MacRefW
open Go.RowKit BytesW CellsW WordsW ArrW HashM HashX HashMath HashFinW HashSumW HashSameW HashBlockW HashRefW MacM

theorem arr64 : Tryd.prog.underlying 50 = some (.array 64 5) := by kernel_rfl
theorem arr64_size : (Tryd.prog.info? 50).map (·.size) = some 64 := by kernel_rfl
theorem bs_keep0 {w w' : World} {g : Nat} {A : Option Addr} {l : List UInt8} (h : Bs w w.heap.size A l) (hg : w.grownBy w' (some g)) (hne : 0 < l.length → ∀ ad, A = some ad → ad.block ≠ g) : Bs w' w'.heap.size A l := by
  intro h0
  obtain ⟨ad, e, hlt, hcl⟩ := h h0
  exact ⟨ad, e, Nat.lt_of_lt_of_le hlt hg.size, fun k hk => (World.cell?_of_block (hg.block _ (by rw [add_block]; exact hlt) (by rw [add_block]; intro q; cases q; exact hne h0 ad e rfl))).trans (hcl k hk)⟩

set_option maxHeartbeats 4000000 in
set_option maxRecDepth 100000 in
theorem fkey_any (A : Option Addr) (l : List UInt8) (c : Nat) (w : World) (hA : Bs w w.heap.size A l) (hl : l.length ≤ 140737488351232) (hI : TabI w) (hT : TabK w) :
    Calls Tryd.prog 31 #[.slice A l.length c] w fun e w' => e = .returned (.agg (Lib.byteCells (kb l)).toArray) ∧ Below w.heap.size w w' := by
  have HI := Lib.hid hI
  have HT := Lib.hid hT
  have HA := Lib.hid hA
  clear hI hT hA
  go_enter Tryd.func31, Tryd.ntmps31
  go_upto_region 2 with (fail)
  generalize hW : World.alloc _ _ = W
  obtain ⟨H0, H1, hbw, hsz⟩ := start2 hW
  clear hW
  have a0 : Arr W w.heap.size 50 (Lib.byteCells (List.replicate 64 0)) := H0
  have a1 : Arr W (w.heap.size + 1) 50 (Lib.byteCells (List.replicate 64 0)) := H1
  have A0 := Lib.hid a0
  have A1 := Lib.hid a1
  have HB := Lib.hid hbw
  have HSZ := Lib.hid hsz
  clear a0 a1 H0 H1 hbw hsz
  by_cases h64 : 64 < l.length
  · have ct : decide ((l.length : Int) > 64) = true := decide_eq_true (by omega)
    have HD := Lib.hid (dsum_any A l c W ((HA.out.below HB.out).more HB.out.size) (Nat.le_trans hl (by decide)) (HI.out.below HB.out) (HT.out.below HB.out))
    have HKK0 := Lib.hid (show kk l = HashM.sum l by unfold kk; rw [if_pos h64])
    go_wp2_with fail
    refine HD.out.mono ?_
    clear HD
    rintro e w1 ⟨rfl, b1⟩
    obtain ⟨m, hm⟩ : ∃ m, HashM.sum l = m := ⟨_, rfl⟩
    have hml : m.length = 32 := by rw [← hm, sum_len]
    rw [hm] at HKK0 ⊢
    have HKK := HKK0
    have B1 := Lib.hid (HB.out.trans (b1.mono HB.out.size))
    have A01 := Lib.hid (A0.out.below b1 A0.out.lt)
    have A11 := Lib.hid (A1.out.below b1 A1.out.lt)
    have HSZ1 := Lib.hid (show w.heap.size + 2 ≤ w1.heap.size by have := HSZ.out; have := b1.size; omega)
    have N32 := Lib.hid (show (Lib.byteCells m).length = 32 by rw [Lib.byteCells_length]; exact hml)
    clear b1 hm h64 ct
    go_upto_region 5 with (refine Arr.storeL (Arr.new w1 _ _) rfl 27 (.tmp 4) (.tmp 11) rfl rfl (Lib.byteCells m) rfl dig_size (by rfl) N32.out (bytes_one _) ?_)
    generalize hw3 : World.setRow _ _ _ = w3
    obtain ⟨p4, b3, z3⟩ := filled hw3
    have BX := Lib.hid (B1.out.trans (b3.mono B1.out.size))
    have A0X := Lib.hid (A01.out.below b3 A01.out.lt)
    have A1X : Hid (Arr w3 (w.heap.size + 1) 50 (Lib.byteCells (fillK m 0))) := Lib.hid (A11.out.below b3 A11.out.lt)
    have HMX := Lib.hid (arr_bs p4 (show w1.heap.size < w3.heap.size by omega))
    have HNE : Hid (0 < m.length → ∀ ad, (some ⟨w1.heap.size, 0, none⟩ : Option Addr) = some ad → ad.block ≠ w.heap.size + 1) := Lib.hid (fun _ ad e => by cases e; have := HSZ1.out; show w1.heap.size ≠ _; omega)
    have HM64 := Lib.hid (show m.length ≤ 64 by omega)
    rw [show (32 : Nat) = m.length from hml.symm]
    clear b3 hw3 p4 z3 hml
    go_wp2
    go_loopw [5, 6, 15] (fun _ _ vi wr => ∃ i : Nat, i ≤ m.length ∧ vi = .int .i64 (i : Int) ∧ Arr wr (w.heap.size + 1) 50 (Lib.byteCells (fillK m i)) ∧ w3.grownBy wr (some (w.heap.size + 1))) (fun _ _ vi _ => m.length - (intOf vi).toNat)
    case atStart => exact ⟨0, Nat.zero_le _, rfl, A1X.out, grownRefl _ _⟩
    case round =>
      obtain ⟨i, hi, rfl, a1, hg⟩ := hrel
      by_cases hlt : i < m.length
      · have ct2 : decide ((i : Int) < (m.length : Int)) = true := decide_eq_true (by omega)
        obtain ⟨ad, had, _, cx⟩ := (bs_keep0 HMX.out hg HNE.out).at_ hlt
        cases had
        rw [show (⟨w1.heap.size, 0, none⟩ : Addr).add i = ⟨w1.heap.size, i, none⟩ by by_cases h0 : i = 0 <;> simp [Addr.add, h0]] at cx
        have a2 := a1.set i (.int .u8 ((m[i]'hlt).toNat : Int))
        rw [HashX.bc_set, fillK_set m i hlt HM64.out] at a2
        obtain ⟨old, cd⟩ : ∃ o, wr.cell? ⟨w.heap.size + 1, i, none⟩ = some o := ⟨_, a1.cell' i (by rw [Lib.byteCells_length, fillK_len m i hi HM64.out]; have := HM64.out; omega)⟩
        have fd := a1.frozen i
        have hi64 : i < 64 := by have := HM64.out; omega
        have A2 := Lib.hid a2
        have HG := Lib.hid (grownTrans hg (grownSet wr (w.heap.size + 1) i (.int .u8 ((m[i]'hlt).toNat : Int))))
        generalize m[i]'hlt = x at *
        clear a1 a2 hg
        go_wp2
        go_roundw
        case rel => exact ⟨i + 1, by omega, by go_num, A2.out, HG.out⟩
        case measure => simp [intOf]; omega
      · obtain rfl : i = m.length := by omega
        have ct2 : decide (((m.length : Nat) : Int) < (m.length : Int)) = false := decide_eq_false (by omega)
        have HKB := Lib.hid (show kb l = fillK m m.length by rw [kb, HKK.out])
        have N1 := Lib.hid (show (Lib.byteCells (fillK m m.length)).length = 64 by rw [Lib.byteCells_length, fillK_len m _ (Nat.le_refl _) HM64.out])
        have A1F := Lib.hid a1
        have A0F := Lib.hid (arr_grown A0X.out hg (by omega))
        have HBX := Lib.hid (BX.out.trans (grownBelow hg (show w.heap.size ≤ w.heap.size + 1 by omega) BX.out.size))
        have AF := Lib.hid (A0F.out.row (Lib.byteCells (fillK m m.length)))
        have HBF := Lib.hid (below_row HBX.out (Nat.le_refl _) (Lib.byteCells (fillK m m.length)).toArray)
        clear a1 hg hlt
        go_wp2_with (first | (refine Arr.loadL A1F.out rfl 50 (.tmp 3) rfl rfl arr64 rfl arr64_size N1.out ?_) | (refine Arr.storeL A0F.out rfl 50 (.tmp 2) (.tmp 24) rfl rfl (Lib.byteCells (fillK m m.length)) rfl arr64_size (by rfl) N1.out (bytes_one _) ?_))
        refine bodyPost_ret (v := .agg (Lib.byteCells (fillK m m.length)).toArray) (by exact AF.out.ret rfl _ rfl arr64 rfl arr64_size N1.out) rfl ⟨by rw [HKB.out], HBF.out⟩
  · have ct : decide ((l.length : Int) > 64) = false := decide_eq_false (by omega)
    have HKK := Lib.hid (show kk l = l by unfold kk; rw [if_neg h64])
    have HMX := Lib.hid ((HA.out.below HB.out).more HB.out.size)
    have HNE : Hid (0 < l.length → ∀ ad, A = some ad → ad.block ≠ w.heap.size + 1) := Lib.hid (fun h0 ad e => by
      obtain ⟨ad', e', hlt, _⟩ := HA.out h0
      rw [e] at e'
      cases e'
      omega)
    have HM64 := Lib.hid (show l.length ≤ 64 by omega)
    have BX := HB
    have A0X := A0
    have A1X : Hid (Arr W (w.heap.size + 1) 50 (Lib.byteCells (fillK l 0))) := A1
    clear h64 HB A0 A1
    go_wp2
    go_loopw [5, 6, 15] (fun _ _ vi wr => ∃ i : Nat, i ≤ l.length ∧ vi = .int .i64 (i : Int) ∧ Arr wr (w.heap.size + 1) 50 (Lib.byteCells (fillK l i)) ∧ W.grownBy wr (some (w.heap.size + 1))) (fun _ _ vi _ => l.length - (intOf vi).toNat)
    case atStart => exact ⟨0, Nat.zero_le _, rfl, A1X.out, grownRefl _ _⟩
    case round =>
      obtain ⟨i, hi, rfl, a1, hg⟩ := hrel
      by_cases hlt : i < l.length
      · have ct2 : decide ((i : Int) < (l.length : Int)) = true := decide_eq_true (by omega)
        obtain ⟨ad, had, _, cx⟩ := (bs_keep0 HMX.out hg HNE.out).at_ hlt
        subst had
        have a2 := a1.set i (.int .u8 ((l[i]'hlt).toNat : Int))
        rw [HashX.bc_set, fillK_set l i hlt HM64.out] at a2
        obtain ⟨old, cd⟩ : ∃ o, wr.cell? ⟨w.heap.size + 1, i, none⟩ = some o := ⟨_, a1.cell' i (by rw [Lib.byteCells_length, fillK_len l i hi HM64.out]; have := HM64.out; omega)⟩
        have fd := a1.frozen i
        have hi64 : i < 64 := by have := HM64.out; omega
        have A2 := Lib.hid a2
        have HG := Lib.hid (grownTrans hg (grownSet wr (w.heap.size + 1) i (.int .u8 ((l[i]'hlt).toNat : Int))))
        generalize l[i]'hlt = x at *
        clear a1 a2 hg
        go_wp2
        go_roundw
        case rel => exact ⟨i + 1, by omega, by go_num, A2.out, HG.out⟩
        case measure => simp [intOf]; omega
      · obtain rfl : i = l.length := by omega
        have ct2 : decide (((l.length : Nat) : Int) < (l.length : Int)) = false := decide_eq_false (by omega)
        have HKB := Lib.hid (show kb l = fillK l l.length by rw [kb, HKK.out])
        have N1 := Lib.hid (show (Lib.byteCells (fillK l l.length)).length = 64 by rw [Lib.byteCells_length, fillK_len l _ (Nat.le_refl _) HM64.out])
        have A1F := Lib.hid a1
        have A0F := Lib.hid (arr_grown A0X.out hg (by omega))
        have HBX := Lib.hid (BX.out.trans (grownBelow hg (show w.heap.size ≤ w.heap.size + 1 by omega) BX.out.size))
        have AF := Lib.hid (A0F.out.row (Lib.byteCells (fillK l l.length)))
        have HBF := Lib.hid (below_row HBX.out (Nat.le_refl _) (Lib.byteCells (fillK l l.length)).toArray)
        clear a1 hg hlt
        go_wp2_with (first | (refine Arr.loadL A1F.out rfl 50 (.tmp 3) rfl rfl arr64 rfl arr64_size N1.out ?_) | (refine Arr.storeL A0F.out rfl 50 (.tmp 2) (.tmp 24) rfl rfl (Lib.byteCells (fillK l l.length)) rfl arr64_size (by rfl) N1.out (bytes_one _) ?_))
        refine bodyPost_ret (v := .agg (Lib.byteCells (fillK l l.length)).toArray) (by exact AF.out.ret rfl _ rfl arr64 rfl arr64_size N1.out) rfl ⟨by rw [HKB.out], HBF.out⟩

theorem xor_54 (x : UInt8) : bits .xor .u8 (x.toNat : Int) 54 = ((x ^^^ 54).toNat : Int) := Bits.xor_u8 x 54
theorem xor_92 (x : UInt8) : bits .xor .u8 (x.toNat : Int) 92 = ((x ^^^ 92).toNat : Int) := Bits.xor_u8 x 92
theorem map_take_succ (f : UInt8 → UInt8) (l : List UInt8) (i : Nat) (h : i < l.length) : (l.take (i + 1)).map f = (l.take i).map f ++ [f l[i]] := by
  rw [List.take_succ_eq_append_getElem h, List.map_append]
  rfl

set_option maxHeartbeats 8000000 in
set_option maxRecDepth 100000 in
theorem fsum_any (A : Option Addr) (k : List UInt8) (c : Nat) (A' : Option Addr) (b : List UInt8) (c' : Nat) (w : World) (hA : Bs w w.heap.size A k) (hl : k.length ≤ 140737488351232) (hB : Bs w w.heap.size A' b) (hb : b.length ≤ 140737488353000) (hI : TabI w) (hT : TabK w) :
    Calls Tryd.prog 21 #[.slice A k.length c, .slice A' b.length c'] w fun e w' => e = .returned (.agg (Lib.byteCells (hmac k b)).toArray) ∧ Below w.heap.size w w' := by
  have HI := Lib.hid hI
  have HT := Lib.hid hT
  have HA := Lib.hid hA
  have HBb := Lib.hid hB
  clear hI hT hA hB
  go_enter Tryd.func21, Tryd.ntmps21
  go_upto_region 1 with (fail)
  generalize hW : World.alloc _ _ = W
  obtain ⟨H0, hbw, hsz⟩ := start1 hW
  clear hW
  have a0 : Arr W w.heap.size 27 (Lib.byteCells (List.replicate 32 0)) := H0
  have A0 := Lib.hid a0
  have X0 := Lib.hid hbw
  have HF := Lib.hid (fkey_any A k c W ((HA.out.below hbw).more hbw.size) hl (HI.out.below hbw) (HT.out.below hbw))
  clear a0 H0 hbw hsz
  go_wp2_with fail
  refine HF.out.mono ?_
  clear HF
  rintro e w1 ⟨rfl, b1⟩
  have X1 := Lib.hid (X0.out.trans (b1.mono X0.out.size))
  have A01 := Lib.hid (A0.out.below b1 A0.out.lt)
  obtain ⟨K, hK⟩ : ∃ K, kb k = K := ⟨_, rfl⟩
  have HKl := Lib.hid (show K.length = 64 by rw [← hK]; exact kb_len k)
  have HKe := Lib.hid hK
  rw [hK]
  have N64 := Lib.hid (show (Lib.byteCells K).length = 64 by rw [Lib.byteCells_length]; exact HKl.out)
  clear b1 hK
  go_upto_region 3 with (refine Arr.storeL (Arr.new w1 _ _) rfl 50 (.tmp 5) (.tmp 12) rfl rfl (Lib.byteCells K) rfl arr64_size (by rfl) N64.out (bytes_one _) ?_)
  generalize hw2 : World.setRow _ _ _ = w2
  obtain ⟨p5, b2, -⟩ := filled hw2
  have X2 := Lib.hid (X1.out.trans (b2.mono X1.out.size))
  have A02 := Lib.hid (A01.out.below b2 A01.out.lt)
  have P5 := Lib.hid p5
  clear b2 hw2 p5
  go_wp2_with (refine Arr.loadL P5.out rfl 50 (.tmp 5) rfl rfl arr64 rfl arr64_size N64.out ?_)
  go_loopw [6, 7, 9, 14] (fun v6 v7 _ vi wr => ∃ i : Nat, i ≤ 64 ∧ vi = .int .i64 (i : Int) ∧ Row w2.heap.size wr v6 ((K.take i).map (· ^^^ 54)) ∧ Row w2.heap.size wr v7 ((K.take i).map (· ^^^ 92)) ∧ Apart v6 v7 ∧ Below w2.heap.size w2 wr) (fun _ _ _ vi _ => 64 - (intOf vi).toNat)
  case atStart => exact ⟨0, by omega, rfl, Row.nil _ _, Row.nil _ _, Apart.nil _, Below.refl _ _⟩
  case round =>
    obtain ⟨i, hi, rfl, r6, r7, hsep, hbl⟩ := hrel
    by_cases hlt : i < 64
    · have ct : decide ((i : Int) < 64) = true := decide_eq_true (by omega)
      have hik : i < K.length := by rw [HKl.out]; exact hlt
      have hix : (Instr.index 50 (.agg (Lib.byteCells K).toArray) (.int .i64 (i : Int))).run Tryd.prog wr = .ok (.int .u8 ((K[i]'hik).toNat : Int)) wr :=
        run_index_arr wr _ 5 64 _ i _ _ arr64 byte_desc rfl byte_size hlt (by simp [Lib.byteCells, List.getElem?_eq_getElem hik])
      have HM6 := Lib.hid (map_take_succ (· ^^^ 54) K i hik)
      have HM7 := Lib.hid (map_take_succ (· ^^^ 92) K i hik)
      have hl6 : ((K.take i).map (· ^^^ 54)).length ≤ 64 := by rw [List.length_map, List.length_take]; omega
      have hl7 : ((K.take i).map (· ^^^ 92)).length ≤ 64 := by rw [List.length_map, List.length_take]; omega
      generalize (K.take i).map (· ^^^ 54) = x6 at *
      generalize (K.take i).map (· ^^^ 92) = x7 at *
      generalize K[i]'hik = x at *
      have q1 := xor_54 x
      have q2 := xor_92 x
      obtain ⟨y1, hy1⟩ : ∃ y, x ^^^ 54 = y := ⟨_, rfl⟩
      obtain ⟨y2, hy2⟩ : ∃ y, x ^^^ 92 = y := ⟨_, rfl⟩
      rw [hy1] at q1 HM6
      rw [hy2] at q2 HM7
      have R6 := Lib.hid r6
      have R7 := Lib.hid r7
      have HSep := Lib.hid hsep
      have HBl := Lib.hid hbl
      have n1 := new_cell wr (.int .u8 (y1.toNat : Int)) 5
      have ra1 := R6.out.alloc (.cells #[.int .u8 (y1.toNat : Int)] 5)
      have sz1 : w2.heap.size ≤ (wr.alloc (.cells #[.int .u8 (y1.toNat : Int)] 5)).heap.size := by have := HBl.out.size; simp; omega
      clear hy1 hy2 r6 r7 hsep hbl
      go_wp2_with (at_builtin; go_must (refine app1g rfl (.tmp 17) (.tmp 20) rfl w2.heap.size _ x6 rfl ra1 ⟨wr.heap.size, 0, none⟩ 1 y1 rfl n1 (by omega) sz1 ?_))
      intro v6' w3 r6' hg6 hmv
      have R6' := Lib.hid r6'
      have hsepA := HSep.out.moved (R7.out.alloc (.cells #[.int .u8 (y1.toNat : Int)] 5)) (by simp) hmv
      have R7' := Lib.hid ((R7.out.alloc (.cells #[.int .u8 (y1.toNat : Int)] 5)).sep HSep.out hg6)
      have HB3 := Lib.hid ((HBl.out.alloc HBl.out.size (.cells #[.int .u8 (y1.toNat : Int)] 5)).trans (ra1.below_own hg6 sz1))
      have HSepA := Lib.hid hsepA
      have n2 := new_cell w3 (.int .u8 (y2.toNat : Int)) 5
      have ra2 := R7'.out.alloc (.cells #[.int .u8 (y2.toNat : Int)] 5)
      have sz2 : w2.heap.size ≤ (w3.alloc (.cells #[.int .u8 (y2.toNat : Int)] 5)).heap.size := by have := HB3.out.size; simp; omega
      clear r6' hg6 hmv hsepA n1 ra1 sz1 R6 R7 HSep HBl
      go_wp2_with (at_builtin; go_must (refine app1g rfl (.tmp 22) (.tmp 25) rfl w2.heap.size _ x7 rfl ra2 ⟨w3.heap.size, 0, none⟩ 1 y2 rfl n2 (by omega) sz2 ?_))
      intro v7' w4 r7' hg7 hmv
      have R7'' := Lib.hid r7'
      have HSepB := Lib.hid ((HSepA.out.swap.moved (R6'.out.alloc (.cells #[.int .u8 (y2.toNat : Int)] 5)) (by simp) hmv).swap)
      have R6'' := Lib.hid ((R6'.out.alloc (.cells #[.int .u8 (y2.toNat : Int)] 5)).sep HSepA.out.swap hg7)
      have HB4 := Lib.hid ((HB3.out.alloc HB3.out.size (.cells #[.int .u8 (y2.toNat : Int)] 5)).trans (ra2.below_own hg7 sz2))
      clear r7' hg7 hmv n2 ra2 sz2 R6' R7' HSepA HB3 q1 q2 hix
      go_wp2
      go_roundw
      case rel => exact ⟨i + 1, by omega, by go_num, by rw [HM6.out]; exact R6''.out, by rw [HM7.out]; exact R7''.out, HSepB.out, HB4.out⟩
      case measure => simp [intOf]; omega
    · obtain rfl : i = 64 := by omega
      have ct : decide ((64 : Int) < 64) = false := rfl
      have e6 : (K.take 64).map (· ^^^ 54) = inner k := by rw [List.take_of_length_le (by rw [HKl.out]; omega), inner, HKe.out]
      have e7 : (K.take 64).map (· ^^^ 92) = outer k := by rw [List.take_of_length_le (by rw [HKl.out]; omega), outer, HKe.out]
      rw [e6] at r6
      rw [e7] at r7
      have R6 := Lib.hid r6
      have R7 := Lib.hid r7
      have HSep := Lib.hid hsep
      have HBl := Lib.hid hbl
      have X3 := Lib.hid (X2.out.trans (hbl.mono X2.out.size))
      have A03 := Lib.hid (A02.out.below hbl A02.out.lt)
      have il := inner_len k
      have ol := outer_len k
      obtain ⟨IN, hIN⟩ : ∃ x, inner k = x := ⟨_, rfl⟩
      obtain ⟨OU, hOU⟩ : ∃ x, outer k = x := ⟨_, rfl⟩
      have HIN := Lib.hid hIN
      have HOU := Lib.hid hOU
      rw [hIN] at R6 il
      rw [hOU] at R7 ol
      have HIL := Lib.hid il
      have HOL := Lib.hid ol
      have HB3 := Lib.hid ((HBb.out.below X3.out).more X3.out.size)
      clear e6 e7 r6 r7 hsep hbl il ol hIN hOU hi hlt
      simp only [show ((64 : Nat) : Int) = 64 from rfl]
      go_wp2_with (at_builtin; go_must (refine appNg rfl (.tmp 28) (.tmp 29) rfl w2.heap.size _ _ IN rfl R6.out A' b c' rfl HB3.out (by rw [HIL.out]; omega) HBl.out.size ?_))
      intro v30 w4 r30 hg30
      have hb30 := R6.out.below_own hg30 HBl.out.size
      have R7' := Lib.hid (R7.out.sep HSep.out hg30)
      have HB4 := Lib.hid (HBl.out.trans hb30)
      have X4 := Lib.hid (X2.out.trans (HB4.out.mono X2.out.size))
      have A04 := Lib.hid (A02.out.below HB4.out A02.out.lt)
      have hlen30 : (IN ++ b).length ≤ 140737488354000 := by rw [List.length_append, HIL.out]; omega
      obtain ⟨Y, hY⟩ : ∃ Y, IN ++ b = Y := ⟨_, rfl⟩
      have HYe := Lib.hid hY
      rw [hY] at r30 hlen30
      obtain ⟨A30, c30, rfl, s30, hc30⟩ := r30.form2
      have HD := Lib.hid (dsum_any A30 Y c30 w4 s30 hlen30 (HI.out.below X4.out) (HT.out.below X4.out))
      clear r30 hg30 hb30 s30 hc30 hlen30 hY R6 R7 HSep HBl HB3
      go_wp2_with fail
      refine HD.out.mono ?_
      clear HD
      rintro e w5 ⟨rfl, b5⟩
      have X5 := Lib.hid (X4.out.trans (b5.mono X4.out.size))
      have A05 := Lib.hid (A04.out.below b5 A04.out.lt)
      have R75 := Lib.hid (R7'.out.below b5)
      obtain ⟨D, hD⟩ : ∃ D, HashM.sum Y = D := ⟨_, rfl⟩
      have HDl := Lib.hid (show D.length = 32 by rw [← hD]; exact sum_len _)
      have HDe := Lib.hid hD
      rw [hD]
      have N32 := Lib.hid (show (Lib.byteCells D).length = 32 by rw [Lib.byteCells_length]; exact HDl.out)
      have HB5 := Lib.hid (HB4.out.trans (b5.mono HB4.out.size))
      clear b5 hD
      go_upto_region 9 with (refine Arr.storeL (Arr.new w5 _ _) rfl 27 (.tmp 10) (.tmp 31) rfl rfl (Lib.byteCells D) rfl dig_size (by rfl) N32.out (bytes_one _) ?_)
      generalize hw6 : World.setRow _ _ _ = w6
      obtain ⟨p10, b6, z6⟩ := filled hw6
      have X6 := Lib.hid (X5.out.trans (b6.mono X5.out.size))
      have A06 := Lib.hid (A05.out.below b6 A05.out.lt)
      have R76 := Lib.hid (R75.out.below b6)
      have S10 := Lib.hid (arr_bs p10 (show w5.heap.size < w6.heap.size by omega))
      have HB6 := Lib.hid (HB5.out.trans (b6.mono HB5.out.size))
      clear b6 hw6 p10 z6
      go_wp2_with (at_builtin; go_must (refine appN rfl (.tmp 32) (.tmp 33) rfl w2.heap.size _ _ OU rfl R76.out (some ⟨w5.heap.size, 0, none⟩) D 32 (by rw [HDl.out]; rfl) S10.out (by rw [HOL.out, HDl.out]; omega) HB6.out.size ?_))
      intro v34 w7 r34 hb34
      have hlen34 : (OU ++ D).length ≤ 140737488354000 := by rw [List.length_append, HOL.out, HDl.out]; omega
      obtain ⟨Z, hZ⟩ : ∃ Z, OU ++ D = Z := ⟨_, rfl⟩
      have HZe := Lib.hid hZ
      rw [hZ] at r34 hlen34
      obtain ⟨A34, c34, rfl, s34, hc34⟩ := r34.form2
      have X7 := Lib.hid (X6.out.trans (hb34.mono X2.out.size))
      have A07 := Lib.hid (A06.out.below hb34 (Nat.lt_of_lt_of_le A02.out.lt (Nat.le_refl _)))
      have HD2 := Lib.hid (dsum_any A34 Z c34 w7 s34 hlen34 (HI.out.below X7.out) (HT.out.below X7.out))
      clear r34 hb34 s34 hc34 hlen34 hZ
      go_wp2_with fail
      refine HD2.out.mono ?_
      clear HD2
      rintro e w8 ⟨rfl, b8⟩
      have X8 := Lib.hid (X7.out.trans (b8.mono X7.out.size))
      have A08 := Lib.hid (A07.out.below b8 A07.out.lt)
      have HE := Lib.hid (show HashM.sum Z = hmac k b by rw [hmac, HIN.out, HOU.out, HYe.out, HDe.out, HZe.out])
      have N33 := Lib.hid (show (Lib.byteCells (HashM.sum Z)).length = 32 by rw [Lib.byteCells_length]; exact sum_len _)
      have AF := Lib.hid (A08.out.row (Lib.byteCells (HashM.sum Z)))
      have HBF := Lib.hid (below_row X8.out (Nat.le_refl _) (Lib.byteCells (HashM.sum Z)).toArray)
      clear b8
      go_wp2_with (refine Arr.storeL A08.out rfl 27 (.tmp 4) (.tmp 35) rfl rfl (Lib.byteCells (HashM.sum Z)) rfl dig_size (by rfl) N33.out (bytes_one _) ?_)
      refine bodyPost_ret (v := .agg (Lib.byteCells (HashM.sum Z)).toArray) (by exact AF.out.ret rfl _ rfl dig rfl dig_size N33.out) rfl ⟨by rw [HE.out], HBF.out⟩
end Go.Proofs.YtnlhcogmccladaaDoor.MacRefW
