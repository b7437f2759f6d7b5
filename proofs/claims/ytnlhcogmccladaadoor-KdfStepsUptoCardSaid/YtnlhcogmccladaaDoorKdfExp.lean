/-
  kdf.validLength, kdf.Extract, kdf.Expand: what they hand back. Conditions: in each statement.
-/
import Derived.Test.YtnlhcogmccladaaDoorKdfK
import Derived.Test.YtnlhcogmccladaaDoorMacSum
import Derived.Test.YtnlhcogmccladaaDoorSConcat
import Derived.Test.YtnlhcogmccladaaDoorKb
namespace Go.Proofs.YtnlhcogmccladaaDoor.KdfSumW
open Go.RowKit BytesW CellsW WordsW ArrW HashM HashX HashMath HashCompW HashFinW HashRightW HashSumW HashMoreW MacM KdfM RowsW SConcatW

/-- What kdf's functions ask of the tables. -/
def Tabs (w : World) : Prop := TabR w
theorem Tabs.below {w w' : World} (h : Tabs w) (hb : Below w.heap.size w w') : Tabs w' := TabR.below h hb

/-- Bytes and an error, handed back in memory that reads. -/
def Post (m : List UInt8 × Int) (w : World) (e : Ending) (w' : World) : Prop :=
  ∃ A c, e = .returned (.tuple #[.slice A m.1.length c, .int .i64 m.2]) ∧ m.1.length ≤ c ∧ Bs w' w'.heap.size A m.1 ∧ Below w.heap.size w w'

/-- A row of bytes that has just been laid, whatever its mark. -/
theorem litsB (w : World) (l : List UInt8) (cs : Array Value) (hcs : cs = (Lib.byteCells l).toArray) (fz : Nat × Nat) (B : Nat) (hB : w.heap.size < B) : Bs (w.alloc (.cells cs 5 fz)) B (some ⟨w.heap.size, 0, none⟩) l := by
  subst hcs
  intro _
  refine ⟨_, rfl, hB, fun k hk => ?_⟩
  have e : (⟨w.heap.size, 0, none⟩ : Addr).add k = ⟨w.heap.size, k, none⟩ := by unfold Addr.add; split <;> simp_all
  rw [e]
  unfold World.cell?
  simp only [heap_alloc_new]
  simp [Lib.byteCells, List.getElem?_eq_getElem hk]

set_option maxHeartbeats 400000 in
theorem valid_yes (L : Nat) (h : L ≤ 8160) (w : World) :
    Calls Tryd.prog 19 #[.int .i64 (L : Int)] w fun e w' => e = .returned (.bool true) ∧ w = w' := by
  have c1 : decide (0 ≤ (L : Int)) = true := decide_eq_true (by omega)
  have c2 : decide ((L : Int) ≤ 8160) = true := decide_eq_true (by omega)
  go_enter Tryd.func19, Tryd.ntmps19
  go_wp2
  go_ret
  exact ⟨rfl, rfl⟩
set_option maxHeartbeats 400000 in
theorem valid_no (n : Int) (h : n < 0 ∨ 8160 < n) (w : World) :
    Calls Tryd.prog 19 #[.int .i64 n] w fun e w' => e = .returned (.bool false) ∧ w = w' := by
  by_cases h1 : n < 0
  · have c1 : decide (0 ≤ n) = false := decide_eq_false (by omega)
    clear h h1
    go_enter Tryd.func19, Tryd.ntmps19
    go_wp2
    go_ret
    exact ⟨rfl, rfl⟩
  · have c1 : decide (0 ≤ n) = true := decide_eq_true (by omega)
    have c2 : decide (n ≤ 8160) = false := decide_eq_false (by omega)
    clear h h1
    go_enter Tryd.func19, Tryd.ntmps19
    go_wp2
    go_ret
    exact ⟨rfl, rfl⟩

/-- An empty key is one of noughts. -/
theorem kb_none : kb [] = kb (List.replicate 32 0) := by decide +kernel
theorem hm_extract (k b : List UInt8) (h : b.length ≤ 1099511627712) : MacSumW.hm k b = extract k b := by
  rw [MacSumW.hm_small k b h]
  unfold extract
  by_cases h0 : k.length = 0
  · obtain rfl := List.eq_nil_of_length_eq_zero h0
    rw [if_pos (show ([] : List UInt8).length = 0 from rfl), ← MacSumW.hm_small [] b h, ← MacSumW.hm_small _ b h]
    exact MacSumW.hm_key kb_none b
  · rw [if_neg h0]
theorem extract_len (k b : List UInt8) : (extract k b).length = 32 := hmac_len _ _

set_option maxHeartbeats 4000000 in
set_option maxRecDepth 100000 in
theorem kextract_any (A : Option Addr) (k : List UInt8) (c : Nat) (A' : Option Addr) (b : List UInt8) (c' : Nat) (w : World) (hA : Bs w w.heap.size A k) (hc : k.length ≤ c) (hB : Bs w w.heap.size A' b) (hc' : b.length ≤ c') (hl : k.length ≤ 140737488351232) (hb : b.length ≤ 1048576) (hT : Tabs w) :
    Calls Tryd.prog 9 #[.slice A k.length c, .slice A' b.length c'] w fun e w' => e = .returned (.agg (Lib.byteCells (extract k b)).toArray) ∧ Below w.heap.size w w' := by
  have HT := Lib.hid hT
  have HA := Lib.hid hA
  have HBb := Lib.hid hB
  have HE := Lib.hid (hm_extract k b (Nat.le_trans hb (by decide)))
  obtain ⟨D, hD⟩ : ∃ D, extract k b = D := ⟨_, rfl⟩
  have HDl := Lib.hid (show D.length = 32 by rw [← hD]; exact extract_len _ _)
  have N32 := Lib.hid (show (Lib.byteCells D).length = 32 by rw [Lib.byteCells_length]; exact HDl.out)
  rw [hD] at HE ⊢
  clear hT hA hB hD
  go_enter Tryd.func9, Tryd.ntmps9
  go_upto_region 1 with (fail)
  generalize hW : World.alloc _ _ = W
  obtain ⟨H0, hbw, hsz⟩ := start1 hW
  clear hW
  have a0 : Arr W w.heap.size 27 (Lib.byteCells (List.replicate 32 0)) := H0
  have A0 := Lib.hid a0
  have X0 := Lib.hid hbw
  clear a0 H0 hbw hsz
  have hsu := MacSumW.msum_any A k c A' b c' W ((HA.out.below X0.out).more X0.out.size) hc ((HBb.out.below X0.out).more X0.out.size) hc' hl (Nat.le_trans hb (by decide)) (HT.out.below X0.out)
  rw [HE.out] at hsu
  have HSu := Lib.hid hsu
  clear hsu
  go_wp2_with fail
  refine HSu.out.mono ?_
  clear HSu
  rintro e w1 ⟨rfl, b1⟩
  have A01 := Lib.hid (A0.out.below b1 A0.out.lt)
  have X1 := Lib.hid (X0.out.trans (b1.mono X0.out.size))
  have AF := Lib.hid (A01.out.row (Lib.byteCells D))
  have HBF := Lib.hid (below_row X1.out (Nat.le_refl _) (Lib.byteCells D).toArray)
  clear b1
  go_wp2_with (refine Arr.storeL A01.out rfl 27 (.tmp 4) (.tmp 7) rfl rfl (Lib.byteCells D) rfl dig_size (by rfl) N32.out (bytes_one _) ?_)
  refine bodyPost_ret (v := .agg (Lib.byteCells D).toArray) (by exact AF.out.ret rfl _ rfl dig rfl dig_size N32.out) rfl ⟨rfl, HBF.out⟩

/-- What lies in another block than the one that grows stays. -/
theorem bs_own {w w' : World} {row : Option Nat} {A : Option Addr} {l : List UInt8} (h : Bs w w.heap.size A l) (hg : w.grownBy w' row) (hne : ∀ ad, A = some ad → some ad.block ≠ row) : Bs w' w'.heap.size A l := by
  intro h0
  obtain ⟨ad, e, hlt, hcl⟩ := h h0
  exact ⟨ad, e, Nat.lt_of_lt_of_le hlt hg.size, fun k hk => (World.cell?_of_block (hg.block _ (by rw [add_block]; exact hlt) (by rw [add_block]; exact hne ad e))).trans (hcl k hk)⟩

/-- The length of a slice's value. -/
def sliceLen : Value → Nat
  | .slice _ n _ => n
  | _ => 0
/-- The parts as the program has them, at any size. -/
def gpartX (key info : List UInt8) : Nat → List UInt8
  | 0 => []
  | n + 1 => MacSumW.hm key (gpartX key info n ++ info ++ [UInt8.ofNat (n + 1)])
theorem gpartX_len (key info : List UInt8) (n : Nat) : (gpartX key info (n + 1)).length = 32 := MacSumW.hm_len _ _
theorem gpartX_le (key info : List UInt8) (n : Nat) : (gpartX key info n).length ≤ 32 := by
  cases n with
  | zero => simp [gpartX]
  | succ n => rw [gpartX_len]; omega
def preX (key info : List UInt8) : Nat → List UInt8
  | 0 => []
  | n + 1 => preX key info n ++ gpartX key info (n + 1)
theorem preX_len (key info : List UInt8) (n : Nat) : (preX key info n).length = 32 * n := by
  induction n with
  | zero => rfl
  | succ n ih => rw [preX, List.length_append, ih, gpartX_len]; omega
def expandX (key info : List UInt8) (long : Nat) : List UInt8 := (preX key info ((long + 31) / 32)).take long
theorem expandX_len (key info : List UInt8) (long : Nat) : (expandX key info long).length = long := by
  rw [expandX, List.length_take, preX_len]
  omega
theorem preX_more (key info : List UInt8) (m n : Nat) (h : m ≤ n) : (preX key info n).take (32 * m) = preX key info m := by
  induction n with
  | zero =>
    obtain rfl : m = 0 := by omega
    rfl
  | succ n ih =>
    by_cases e : m = n + 1
    · rw [e, ← preX_len key info (n + 1), List.take_length]
    · rw [preX, List.take_append_of_le_length (by rw [preX_len]; omega)]
      exact ih (by omega)
theorem expandX_begins (key info : List UInt8) (less long : Nat) (h : less ≤ long) : (expandX key info long).take less = expandX key info less := by
  unfold expandX
  rw [List.take_take, Nat.min_eq_left h, ← preX_more key info ((less + 31) / 32) ((long + 31) / 32) (by omega), List.take_take, Nat.min_eq_left (by omega)]
theorem gpartX_small (key info : List UInt8) (hi : info.length ≤ 1048576) (n : Nat) : gpartX key info n = gpart key info n := by
  induction n with
  | zero => rfl
  | succ n ih =>
    have := gpart_le key info n
    rw [gpartX, ih, gpart, MacSumW.hm_small _ _ (by simp only [List.length_append, List.length_cons, List.length_nil]; omega)]
theorem preX_small (key info : List UInt8) (hi : info.length ≤ 1048576) (n : Nat) : preX key info n = pre key info n := by
  induction n with
  | zero => rfl
  | succ n ih => rw [preX, ih, pre, gpartX_small key info hi]
theorem expandX_small (key info : List UInt8) (hi : info.length ≤ 1048576) (long : Nat) : expandX key info long = expand key info long := by
  unfold expandX expand
  rw [preX_small key info hi]
/-- What Expand answers, at any size. -/
def expandMX (key info : List UInt8) (long : Int) : List UInt8 × Int := if long < 0 ∨ 8160 < long then ([], 2) else (expandX key info long.toNat, 0)
theorem expandMX_small (key info : List UInt8) (hi : info.length ≤ 1048576) (long : Int) : expandMX key info long = expandM key info long := by
  unfold expandMX expandM
  rw [expandX_small key info hi]
/-- The next part, as far as it is asked for. -/
theorem pre_next (key info : List UInt8) (i L : Nat) (h : 32 * i < L) : preX key info i ++ (gpartX key info (i + 1)).take (min 32 (L - 32 * i)) = (preX key info (i + 1)).take L := by
  rw [preX, List.take_append, preX_len, List.take_of_length_le (l := preX key info i) (by rw [preX_len]; omega)]
  congr 1
  by_cases h1 : 32 ≤ L - 32 * i
  · rw [Nat.min_eq_left h1, List.take_of_length_le (by rw [gpartX_len]; exact Nat.le_refl _), List.take_of_length_le (by rw [gpartX_len]; exact h1)]
  · rw [Nat.min_eq_right (by omega)]

set_option maxHeartbeats 8000000 in
set_option maxRecDepth 100000 in
theorem kexpandX_any (A : Option Addr) (key : List UInt8) (c : Nat) (A' : Option Addr) (info : List UInt8) (c' : Nat) (long : Int) (w : World) (hA : Bs w w.heap.size A key) (hc : key.length ≤ c) (hB : Bs w w.heap.size A' info) (hc' : info.length ≤ c') (hl : key.length ≤ 140737488351232) (hli : info.length ≤ 140737488351232) (_h1 : -9223372036854775808 ≤ long) (_h2 : long < 9223372036854775808) (hT : Tabs w) :
    Calls Tryd.prog 8 #[.slice A key.length c, .slice A' info.length c', .int .i64 long] w fun e w' => Post (expandMX key info long) w e w' := by
  have HT := Lib.hid hT
  have HA := Lib.hid hA
  have HBb := Lib.hid hB
  clear hT hA hB _h1 _h2
  by_cases hr : long < 0 ∨ 8160 < long
  · have HE := Lib.hid (show expandMX key info long = ([], 2) by unfold expandMX; rw [if_pos hr])
    have HV := Lib.hid (valid_no long hr w)
    clear hr
    go_enter Tryd.func8, Tryd.ntmps8
    go_wp2_with fail
    refine HV.out.mono ?_
    clear HV
    rintro e w' ⟨rfl, rfl⟩
    go_wp2
    go_ret2
    rw [HE.out]
    exact ⟨none, 0, rfl, Nat.le_refl _, Bs.nil _ _ _, Below.refl _ _⟩
  · obtain ⟨L, rfl⟩ : ∃ L : Nat, long = (L : Int) := ⟨long.toNat, by omega⟩
    have hL : L ≤ 8160 := by omega
    have HE := Lib.hid (show expandMX key info (L : Int) = (expandX key info L, 0) by unfold expandMX; rw [if_neg hr, Int.toNat_natCast])
    have HV := Lib.hid (valid_yes L hL w)
    clear hr
    go_enter Tryd.func8, Tryd.ntmps8
    go_wp2_with fail
    refine HV.out.mono ?_
    clear HV
    rintro e w' ⟨rfl, rfl⟩
    have hmk : (Instr.makeSlice 22 (.int .i64 0) (.int .i64 (L : Int))).run Tryd.prog w = .ok (.slice (some ⟨w.heap.size, 0, none⟩) 0 L) (w.alloc (.cells (madeCells #[.int .u8 0] L) 5)) := make0 L (by omega) w
    have hrm := Row.made w.heap.size L w (Nat.le_refl _) (by unfold maxLen; omega)
    have hbm : Below w.heap.size w (w.alloc (.cells (madeCells #[.int .u8 0] L) 5)) := (Below.refl _ _).alloc (Nat.le_refl _) _
    obtain ⟨W, hW⟩ : ∃ W, w.alloc (.cells (madeCells #[.int .u8 0] L) 5) = W := ⟨_, rfl⟩
    rw [hW] at hmk hrm hbm
    have R0 := Lib.hid hrm
    have X0 := Lib.hid hbm
    clear hrm hbm hW
    go_wp2
    clear hmk
    go_loopw [8, 9, 10] (fun v8 v9 v10 wr => ∃ (i : Nat) (A9 : Option Addr) (c9 : Nat), 32 * i < L + 32 ∧ v10 = .int .u8 ((UInt8.ofNat (i + 1)).toNat : Int) ∧ Row w.heap.size wr v8 ((preX key info i).take L) ∧ v9 = .slice A9 (gpartX key info i).length c9 ∧ (gpartX key info i).length ≤ c9 ∧ Bs wr wr.heap.size A9 (gpartX key info i) ∧ Below w.heap.size w wr) (fun v8 _ _ _ => L - sliceLen v8)
    case atStart => exact ⟨0, none, 0, by omega, rfl, by simpa [preX] using R0.out, rfl, Nat.le_refl _, Bs.nil _ _ _, X0.out⟩
    case round =>
      obtain ⟨i, A9, c9, hi, rfl, hrow, rfl, hc9, s9, hb⟩ := hrel
      obtain ⟨A8, c8, rfl, s8, hc8⟩ := hrow.form2
      have S8 := Lib.hid s8
      have S9 := Lib.hid s9
      have HRow := Lib.hid hrow
      have HBl := Lib.hid hb
      clear s8 s9 hrow hb
      by_cases hlt : 32 * i < L
      · have hpt : (preX key info i).take L = preX key info i := List.take_of_length_le (by rw [preX_len]; omega)
        have hpl : (preX key info i).length = 32 * i := preX_len key info i
        rw [hpt] at HRow S8 hc8 ⊢
        have HNx := Lib.hid (pre_next key info i L hlt)
        have HGp := Lib.hid (show MacSumW.hm key (gpartX key info i ++ info ++ [UInt8.ofNat (i + 1)]) = gpartX key info (i + 1) from rfl)
        have HTl := Lib.hid (gpartX_le key info i)
        obtain ⟨P, hP⟩ : ∃ P, preX key info i = P := ⟨_, rfl⟩
        obtain ⟨T, hTT⟩ : ∃ T, gpartX key info i = T := ⟨_, rfl⟩
        obtain ⟨D, hD⟩ : ∃ D, gpartX key info (i + 1) = D := ⟨_, rfl⟩
        have HDe := Lib.hid hD
        have HDl := Lib.hid (show D.length = 32 by rw [← hD]; exact gpartX_len _ _ _)
        have N32 := Lib.hid (show (Lib.byteCells D).length = 32 by rw [Lib.byteCells_length]; exact HDl.out)
        obtain ⟨x, hx⟩ : ∃ x, UInt8.ofNat (i + 1) = x := ⟨_, rfl⟩
        have HX2 := Lib.hid (show ((x.toNat : Int) + 1) % 256 = ((UInt8.ofNat (i + 2)).toNat : Int) by rw [← hx, UInt8.toNat_ofNat', UInt8.toNat_ofNat']; omega)
        rw [hP] at HRow S8 hc8 hpl HNx ⊢
        rw [hTT] at S9 hc9 HGp HTl ⊢
        rw [hD] at HGp HNx
        rw [hx] at HGp ⊢
        obtain ⟨M, hM⟩ : ∃ M, 32 * i = M := ⟨_, rfl⟩
        rw [hM] at hlt hpl HNx
        rw [hpl] at hc8 ⊢
        have HM := Lib.hid hM
        have HPl := Lib.hid hpl
        have HR8 : Hid (Row w.heap.size wr (.slice A8 M c8) P) := Lib.hid (by rw [← HPl.out]; exact HRow.out)
        have ct : decide ((M : Int) < (L : Int)) = true := decide_eq_true (by omega)
        clear hP hTT hD hx hM hpl hpt HRow
        go_wp2_with fail
        have s7 := litsB wr [x] #[.int .u8 (x.toNat : Int)] rfl (0, 0) (wr.heap.size + 1) (Nat.lt_succ_self _)
        have b7 := (Below.refl wr.heap.size wr).alloc (Nat.le_refl _) (.cells #[.int .u8 (x.toNat : Int)] 5)
        obtain ⟨W7, hW7⟩ : ∃ W7, wr.alloc (.cells #[.int .u8 (x.toNat : Int)] 5) = W7 := ⟨_, rfl⟩
        have hz7 : W7.heap.size = wr.heap.size + 1 := by rw [← hW7]; simp
        rw [hW7] at s7 b7 ⊢
        rw [← hz7] at s7 ⊢
        obtain ⟨AC, hAC⟩ : ∃ AC, (some ⟨wr.heap.size, 0, none⟩ : Option Addr) = AC := ⟨_, rfl⟩
        rw [hAC] at s7 ⊢
        have X7 := HBl.out.trans (b7.mono HBl.out.size)
        have hMs := Ms.laid W7 [.slice A9 T.length c9, .slice A' info.length c', .slice AC 1 1] [T, info, [x]] #[.slice A9 T.length c9, .slice A' info.length c', .slice AC 1 1] rfl (0, 0) rfl (fun k u y hu hy => by
          match k, hu, hy with
          | 0, hu, hy => simp at hu hy; subst hu; subst hy; exact ⟨A9, c9, rfl, hc9, (S9.out.below b7).more b7.size⟩
          | 1, hu, hy => simp at hu hy; subst hu; subst hy; exact ⟨A', c', rfl, hc', (HBb.out.below X7).more X7.size⟩
          | 2, hu, hy => simp at hu hy; subst hu; subst hy; exact ⟨AC, 1, rfl, Nat.le_refl _, s7⟩) (W7.heap.size + 1) (Nat.lt_succ_self _)
        have b8 := (Below.refl W7.heap.size W7).alloc (Nat.le_refl _) (.cells #[.slice A9 T.length c9, .slice A' info.length c', .slice AC 1 1] 22)
        obtain ⟨W8, hW8⟩ : ∃ W8, W7.alloc (.cells #[.slice A9 T.length c9, .slice A' info.length c', .slice AC 1 1] 22) = W8 := ⟨_, rfl⟩
        have hz8 : W8.heap.size = W7.heap.size + 1 := by rw [← hW8]; simp
        rw [hW8] at hMs b8 ⊢
        rw [← hz8] at hMs
        have hTl := HTl.out
        have hco := concat_any (some ⟨W7.heap.size, 0, none⟩) [T, info, [x]] 3 W8 hMs (by simp [tot]; omega) (by simp)
        rw [show ([T, info, [x]] : List (List UInt8)).flatten = T ++ info ++ [x] by simp] at hco
        have HCo := Lib.hid hco
        have X8 := Lib.hid (X7.trans (b8.mono X7.size))
        have B8 := Lib.hid (b7.trans (b8.mono b7.size))
        clear s7 b7 hW7 hz7 X7 hAC hMs b8 hW8 hz8 hco hTl hc9
        refine HCo.out.mono ?_
        clear HCo
        rintro e W9 ⟨v9, rfl, r9, b9⟩
        have X9 := Lib.hid (X8.out.trans (b9.mono X8.out.size))
        have B9 := Lib.hid (B8.out.trans (b9.mono B8.out.size))
        obtain ⟨A29, d29, rfl, s29, hd29⟩ := r9.form2
        have hsu := MacSumW.msum_big A key c A29 (T ++ info ++ [x]) d29 W9 ((HA.out.below X9.out).more X9.out.size) hc s29 hd29 hl (HT.out.below X9.out)
        rw [HGp.out] at hsu
        have HSu := Lib.hid hsu
        generalize T ++ info ++ [x] = Z at *
        clear hsu b9 r9 s29 hd29 HGp
        go_wp2_with fail
        refine HSu.out.mono ?_
        clear HSu
        rintro e W10 ⟨rfl, b10⟩
        have X10 := Lib.hid (X9.out.trans (b10.mono X9.out.size))
        have B10 := Lib.hid (B9.out.trans (b10.mono B9.out.size))
        clear b10
        go_upto_region 9 with (refine Arr.storeL (Arr.new W10 _ _) rfl 27 (.tmp 11) (.tmp 30) rfl rfl (Lib.byteCells D) rfl dig_size (by rfl) N32.out (bytes_one _) ?_)
        generalize hw11 : World.setRow _ _ _ = W11
        obtain ⟨p11, b11, z11⟩ := filled hw11
        have X11 := Lib.hid (X10.out.trans (b11.mono X10.out.size))
        have B11 := Lib.hid (B10.out.trans (b11.mono B10.out.size))
        have S11 := Lib.hid (arr_bs p11 (show W10.heap.size < W11.heap.size by omega))
        obtain ⟨g, hg⟩ : ∃ g, W10.heap.size = g := ⟨_, rfl⟩
        have HSep := Lib.hid (show ∀ k, (Value.slice A8 M c8).ownBlock = some k → k < g from fun k hk => by have h1 := (World.ownsRow.lt HR8.out k hk).2; have h2 := B10.out.size; omega)
        rw [hg] at S11 ⊢
        clear b11 hw11 p11 hg z11
        have R11 := Lib.hid (HR8.out.below B11.out)
        obtain ⟨m, hm⟩ : ∃ m, min 32 (L - M) = m := ⟨_, rfl⟩
        have i1 : (m : Int) ≤ 32 := by omega
        have hst := S11.out.take m
        obtain ⟨E, hE⟩ : ∃ E, D.take m = E := ⟨_, rfl⟩
        have HEl := Lib.hid (show E.length = m by rw [← hE, List.length_take, HDl.out]; omega)
        have hmM := hm
        rw [hm, hE] at HNx
        rw [hE] at hst
        have ST := Lib.hid hst
        have HMm := Lib.hid (show P.length + E.length ≤ 140737488355328 by rw [HPl.out, HEl.out]; omega)
        have HPos := Lib.hid (show M < M + m ∧ M + m ≤ L by omega)
        clear hst hE hm S8 HR8 B8 B9 B10 B11 X8 X9 X10 ct
        by_cases h32 : (L : Int) - (M : Int) < 32
        · have HEm := Lib.hid (show E.length = L - M by rw [HEl.out]; omega)
          go_wp2_with (at_builtin; go_must (refine appNg rfl (.tmp 32) (.tmp 39) rfl w.heap.size _ _ P rfl R11.out (some ⟨g, 0, none⟩) E 32 (by rw [HEm.out]; rfl) ST.out HMm.out X11.out.size ?_))
          intro v40 w12 r40 g12
          have b12 := R11.out.below_own g12 X11.out.size
          have X12 := Lib.hid (X11.out.trans b12)
          have S12 := Lib.hid (bs_own S11.out g12 (fun ad e q => by cases e; exact Nat.lt_irrefl _ (HSep.out _ q.symm)))
          rw [HNx.out] at r40
          have hRl := congrArg List.length HNx.out
          rw [List.length_append, HPl.out, HEl.out] at hRl
          have HRl := Lib.hid hRl
          have R12 := Lib.hid r40
          clear r40 b12 g12 hRl HNx ST
          go_wp2
          go_roundw
          case rel => exact ⟨i + 1, some ⟨g, 0, none⟩, 32, by have := HM.out; omega, by have := HX2.out; first | exact congrArg (Value.int .u8) this | go_num, R12.out, by rw [HDe.out, HDl.out], by rw [HDe.out, HDl.out]; exact Nat.le_refl _, by rw [HDe.out]; exact S12.out, X12.out⟩
          case measure =>
            obtain ⟨A40, c40, rfl, -, -⟩ := R12.out.form2
            simp only [sliceLen]; have := HRl.out; have := HPos.out; omega
        · have HEm := Lib.hid (show E.length = 32 by rw [HEl.out]; omega)
          go_wp2_with (at_builtin; go_must (refine appNg rfl (.tmp 32) (.tmp 39) rfl w.heap.size _ _ P rfl R11.out (some ⟨g, 0, none⟩) E 32 (by rw [HEm.out]; rfl) ST.out HMm.out X11.out.size ?_))
          intro v40 w12 r40 g12
          have b12 := R11.out.below_own g12 X11.out.size
          have X12 := Lib.hid (X11.out.trans b12)
          have S12 := Lib.hid (bs_own S11.out g12 (fun ad e q => by cases e; exact Nat.lt_irrefl _ (HSep.out _ q.symm)))
          rw [HNx.out] at r40
          have hRl := congrArg List.length HNx.out
          rw [List.length_append, HPl.out, HEl.out] at hRl
          have HRl := Lib.hid hRl
          have R12 := Lib.hid r40
          clear r40 b12 g12 hRl HNx ST
          go_wp2
          go_roundw
          case rel => exact ⟨i + 1, some ⟨g, 0, none⟩, 32, by have := HM.out; omega, by have := HX2.out; first | exact congrArg (Value.int .u8) this | go_num, R12.out, by rw [HDe.out, HDl.out], by rw [HDe.out, HDl.out]; exact Nat.le_refl _, by rw [HDe.out]; exact S12.out, X12.out⟩
          case measure =>
            obtain ⟨A40, c40, rfl, -, -⟩ := R12.out.form2
            simp only [sliceLen]; have := HRl.out; have := HPos.out; omega
      · have hpl : ((preX key info i).take L).length = L := by rw [List.length_take, preX_len]; omega
        have hex : (preX key info i).take L = expandX key info L := by
          rw [expandX, ← preX_more key info ((L + 31) / 32) i (by omega), List.take_take, Nat.min_eq_left (by omega)]
        rw [hpl] at hc8 ⊢
        rw [hex] at S8
        have ct : decide ((L : Int) < (L : Int)) = false := decide_eq_false (by omega)
        have HEl := Lib.hid (expandX_len key info L)
        clear hpl hex HRow hlt hi
        go_wp2
        go_ret2
        rw [HE.out]
        exact ⟨A8, c8, by rw [HEl.out]; rfl, by rw [HEl.out]; exact hc8, S8.out, HBl.out⟩

theorem kexpand_any (A : Option Addr) (key : List UInt8) (c : Nat) (A' : Option Addr) (info : List UInt8) (c' : Nat) (long : Int) (w : World) (hA : Bs w w.heap.size A key) (hc : key.length ≤ c) (hB : Bs w w.heap.size A' info) (hc' : info.length ≤ c') (hl : key.length ≤ 140737488351232) (hli : info.length ≤ 1048576) (h1 : -9223372036854775808 ≤ long) (h2 : long < 9223372036854775808) (hT : Tabs w) :
    Calls Tryd.prog 8 #[.slice A key.length c, .slice A' info.length c', .int .i64 long] w fun e w' => Post (expandM key info long) w e w' := by
  have h := kexpandX_any A key c A' info c' long w hA hc hB hc' hl (Nat.le_trans hli (by decide)) h1 h2 hT
  rw [expandMX_small key info hli] at h
  exact h
end Go.Proofs.YtnlhcogmccladaaDoor.KdfSumW
