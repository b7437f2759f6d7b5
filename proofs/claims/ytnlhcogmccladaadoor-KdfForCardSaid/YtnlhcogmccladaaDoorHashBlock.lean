/-
  ticketwardref.DBlock: what it hands back. Conditions: in the statement.
-/
import Derived.Test.YtnlhcogmccladaaDoorHashTurn
import Derived.Test.YtnlhcogmccladaaDoorKa
import Derived.Test.YtnlhcogmccladaaDoorKb
import Derived.Test.YtnlhcogmccladaaDoorKc
import Derived.Deep.DeepCutAuto
namespace Go.Proofs.YtnlhcogmccladaaDoor.HashBlockW
open Go.RowKit BytesW CellsW WordsW ArrW HashM HashTurnW

theorem shr_bit (x i : Nat) (hx : x < 4294967296) : bits .and .u32 ((x : Int) / 2 ^ i) 1 = (bt x i : Int) := by
  have h := Bits.and_u32 (x / 2 ^ i) 1 (Nat.lt_of_le_of_lt (Nat.div_le_self _ _) hx) (by decide)
  rw [Nat.and_one_is_mod, Int.natCast_ediv, Int.natCast_pow] at h
  exact h

set_option maxHeartbeats 1000000 in
/-- The closure that reads a bit. -/
theorem bit_any (x i : Nat) (p : Addr) (hi : i < 32) (w : World) (hx : x < 4294967296) (hc : w.cell? p = some (.int .i64 (i : Int))) :
    Calls Tryd.prog 57 #[.int .u32 (x : Int), .pointer (some p)] w fun e w' => e = .returned (.int .u32 (bt x i : Int)) ∧ w = w' := by
  have hb := shr_bit x i hx
  clear hx
  go_enter Tryd.func57, Tryd.ntmps57
  go_wp2
  go_ret
  exact ⟨rfl, rfl⟩

theorem bit_in (x i : Nat) (p : Addr) (hi : i < 32) (w : World) (hx : x < 4294967296) (hc : w.cell? p = some (.int .i64 (i : Int))) (n : Nat) :
    Calls Tryd.prog 57 #[.int .u32 (x : Int), .pointer (some p)] (w.drewN n) fun e w' => e = .returned (.int .u32 (bt x i : Int)) ∧ ∃ m, w' = w.drewN m :=
  (bit_any x i p hi (w.drewN n) hx hc).mono fun _ _ h => ⟨h.1, n, h.2.symm⟩

theorem or_step (c i p b : Nat) (hp : p = c % 2 ^ i) (hc : c < 4294967296) (hi : i < 32) (hb : b = bt c i) : bits .or .u32 (p : Int) ((b : Int) * 2 ^ i % 4294967296) = ((c % 2 ^ (i + 1) : Nat) : Int) := by
  have hb1 : b ≤ 1 := by rcases bt_cases c i with h | h <;> omega
  have h2 : 2 ^ i ≤ 2 ^ 31 := Nat.pow_le_pow_right (by decide) (by omega)
  have h3 : b * 2 ^ i ≤ 1 * 2 ^ 31 := Nat.mul_le_mul hb1 h2
  have e : (b : Int) * 2 ^ i % 4294967296 = ((b * 2 ^ i : Nat) : Int) := by
    rw [show (b : Int) * 2 ^ i = ((b * 2 ^ i : Nat) : Int) by rw [Int.natCast_mul, Int.natCast_pow]; rfl]
    omega
  have hpl : p < 4294967296 := by rw [hp]; exact Nat.lt_of_le_of_lt (Nat.mod_le _ _) hc
  rw [e, Bits.or_u32 _ _ hpl (by omega), hp, hb, low_bit]
theorem or_one (c i q : Nat) (hq : q = c % 2 ^ i) (hc : c < 4294967296) (hi : i < 32) (hb : bt c i = 1) : bits .or .u32 (q : Int) (2 ^ i % 4294967296) = ((c % 2 ^ (i + 1) : Nat) : Int) := by
  have := or_step c i q 1 hq hc hi hb.symm
  rw [show ((1 : Nat) : Int) * 2 ^ i = 2 ^ i from Int.one_mul _] at this
  exact this

theorem words_take (b : List UInt8) (i : Nat) (h : i < 16) : (words b).take (i + 1) = (words b).take i ++ [VecM.val ((b.drop (4 * i)).take 4)] := by
  have hl : i < (words b).length := by simp [words]; exact h
  rw [List.take_succ_eq_append_getElem hl]
  simp [words]

theorem val_take (b : List UInt8) (i j : Nat) (h : 4 * i + j < b.length) : VecM.val ((b.drop (4 * i)).take (j + 1)) = VecM.val ((b.drop (4 * i)).take j) * 256 + b[4 * i + j].toNat := by
  have h1 : j < (b.drop (4 * i)).length := by rw [List.length_drop]; omega
  rw [List.take_succ_eq_append_getElem h1, VecM.val_snoc, List.getElem_drop]
theorem val_small (b : List UInt8) (i j : Nat) (h : j ≤ 3) : VecM.val ((b.drop (4 * i)).take j) < 16777216 := by
  have h1 := VecM.val_lt ((b.drop (4 * i)).take j)
  have h2 : ((b.drop (4 * i)).take j).length ≤ 3 := by rw [List.length_take]; omega
  have h3 : 256 ^ ((b.drop (4 * i)).take j).length ≤ 256 ^ 3 := Nat.pow_le_pow_right (by decide) h2
  omega

theorem words_len (l : List UInt8) : (words l).length = 16 := by simp [words]
theorem ext_len (i : Nat) (l : List UInt8) : (ext i (words l)).length = 16 + i := by
  induction i with
  | zero => simp [ext, words]
  | succ i ih => simp [ext, ih]; omega
theorem words_lt (l : List UInt8) : ∀ n ∈ words l, n < 4294967296 := by
  intro n hn
  simp only [words, List.mem_map, List.mem_range] at hn
  obtain ⟨i, _, rfl⟩ := hn
  have h1 := VecM.val_lt ((l.drop (4 * i)).take 4)
  have h2 : ((l.drop (4 * i)).take 4).length ≤ 4 := by rw [List.length_take]; omega
  have h3 : 256 ^ ((l.drop (4 * i)).take 4).length ≤ 256 ^ 4 := Nat.pow_le_pow_right (by decide) h2
  omega
theorem ext_lt (i : Nat) (l : List UInt8) : ∀ n ∈ ext i (words l), n < 4294967296 := by
  induction i with
  | zero => exact words_lt l
  | succ i ih =>
    intro n hn
    rw [ext, List.mem_append] at hn
    rcases hn with h | h
    · exact ih n h
    · simp at h; subst h; unfold next; exact Nat.mod_lt _ (by decide)
/-- The next word, of the four that it looks at. -/
def nw (a b x y : Nat) : Nat := (a + b + ls0 x + ls1 y) % 4294967296
theorem ext_succ (l : List UInt8) (k : Nat) (h : 16 ≤ k) (h1 : k - 16 < (ext (k - 16) (words l)).length) (h2 : k - 7 < (ext (k - 16) (words l)).length) (h3 : k - 15 < (ext (k - 16) (words l)).length) (h4 : k - 2 < (ext (k - 16) (words l)).length) :
    ext (k + 1 - 16) (words l) = ext (k - 16) (words l) ++ [nw (ext (k - 16) (words l))[k - 16] (ext (k - 16) (words l))[k - 7] (ext (k - 16) (words l))[k - 15] (ext (k - 16) (words l))[k - 2]] := by
  have e : k + 1 - 16 = (k - 16) + 1 := by omega
  have hl : (ext (k - 16) (words l)).length = k := by rw [ext_len]; omega
  rw [e, ext]
  unfold next nw
  rw [hl]
  simp [List.getD_eq_getElem?_getD, h1, h2, h3, h4]

/-- The table of the cube roots. -/
def TabK (w : World) : Prop := ∀ j, j < 64 → w.cell? ⟨1, j, none⟩ = some (.int .u32 ((K.getD j 0 : Nat) : Int))
theorem TabK.below {w w' : World} (h : TabK w) (hb : Below w.heap.size w w') : TabK w' := fun j hj => (hb.cell (World.block_lt_of_cell? _ _ (h j hj))).trans (h j hj)

/-- dturn in a world that has only drawn since. -/
theorem turn_in (w : World) (n x : Nat) (m : Int) (hm : m = (n : Int)) (h1n : 1 ≤ n) (hn : n ≤ 31) (hx : x < 4294967296) (q : Nat) :
    Calls Tryd.prog 56 #[.int .u32 (x : Int), .int .i64 m] (w.drewN q) fun e w'' => e = .returned (.int .u32 (rot n x : Int)) ∧ ∃ m, w'' = w.drewN m :=
  Calls.quiet_of (turn_any n x m hm h1n hn hx _)

theorem xor_lt (a b : Nat) (ha : a < 4294967296) (hb : b < 4294967296) : a ^^^ b < 4294967296 := Nat.xor_lt_two_pow (n := 32) ha hb
theorem wrap_nat (a : Nat) : IntKind.u32.wrap (a : Int) = ((a % 4294967296 : Nat) : Int) := by rw [IntKind.wrap_u32]; omega
theorem wrap_add (a b : Nat) : IntKind.u32.wrap ((a : Int) + b) = (((a + b) % 4294967296 : Nat) : Int) := by rw [IntKind.wrap_u32]; omega
theorem wrap_div (a b : Nat) (h : a < 4294967296) : IntKind.u32.wrap ((a : Int) / b) = ((a / b : Nat) : Int) := by
  have := Nat.div_le_self a b
  rw [← Int.natCast_ediv, wrap_nat, Nat.mod_eq_of_lt (by omega)]

theorem eight {r : List Nat} (h : r.length = 8) : ∃ a b c d e f g i, r = [a, b, c, d, e, f, g, i] := by
  match r, h with
  | [a, b, c, d, e, f, g, i], _ => exact ⟨a, b, c, d, e, f, g, i, rfl⟩

/-- The state behind k additions. -/
def stage (o r : List Nat) (k : Nat) : List Nat := r.take k ++ o.drop k
theorem stage_len (o r : List Nat) (k : Nat) (ho : o.length = 8) (hr : r.length = 8) (hk : k ≤ 8) : (stage o r k).length = 8 := by simp [stage]; omega
theorem stage_get (o r : List Nat) (k : Nat) (ho : o.length = 8) (hr : r.length = 8) (hk : k < 8) : (wc (stage o r k))[k]? = some (.int .u32 ((o.getD k 0 : Nat) : Int)) := by
  have h1 : (r.take k).length = k := by simp; omega
  have h2 : (stage o r k)[k]? = some (o.getD k 0) := by
    unfold stage
    rw [List.getElem?_append_right (by omega), h1, Nat.sub_self, List.getElem?_drop]
    simp [List.getD_eq_getElem?_getD, ho, hk]
  unfold wc
  rw [List.getElem?_map, h2]
  rfl
theorem stage_set (o r : List Nat) (k : Nat) (ho : o.length = 8) (hr : r.length = 8) (hk : k < 8) : (wc (stage o r k)).set k (.int .u32 ((r.getD k 0 : Nat) : Int)) = wc (stage o r (k + 1)) := by
  have h1 : (r.take k).length = k := by simp; omega
  have e : (stage o r k).set k (r.getD k 0) = stage o r (k + 1) := by
    unfold stage
    rw [List.set_append, if_neg (by omega), h1, Nat.sub_self, List.drop_eq_getElem_cons (by omega), List.set_cons_zero, List.take_succ_eq_append_getElem (by omega), List.append_assoc]
    simp [List.getD_eq_getElem?_getD, hr, hk]
  rw [← e]
  unfold wc
  rw [List.map_set]
theorem stage_end (o r : List Nat) (ho : o.length = 8) (hr : r.length = 8) : stage o r 8 = r := by
  unfold stage
  rw [List.take_of_length_le (by omega), List.drop_of_length_le (by omega), List.append_nil]
theorem zip_get (o x : List Nat) (k : Nat) (ho : o.length = 8) (hx : x.length = 8) (hk : k < 8) : (List.zipWith (fun x y => (x + y) % 4294967296) o x).getD k 0 = (o.getD k 0 + x.getD k 0) % 4294967296 := by
  simp [List.getD_eq_getElem?_getD, ho, hx, hk]

set_option maxHeartbeats 40000000 in
set_option maxRecDepth 100000 in
theorem block_any (s0 s1 s2 s3 s4 s5 s6 s7 : Nat) (A : Option Addr) (l : List UInt8) (c : Nat) (w : World) (hA : Bs w w.heap.size A l) (hl : l.length = 64) (hc : l.length ≤ c) (hT : TabK w)
    (hs : (⟨s0, s1, s2, s3, s4, s5, s6, s7⟩ : St).small) :
    Calls Tryd.prog 51 #[.agg #[.int .u32 (s0 : Int), .int .u32 (s1 : Int), .int .u32 (s2 : Int), .int .u32 (s3 : Int), .int .u32 (s4 : Int), .int .u32 (s5 : Int), .int .u32 (s6 : Int), .int .u32 (s7 : Int)], .slice A l.length c] w
      fun e w' => e = .returned (.agg (wc (block [s0, s1, s2, s3, s4, s5, s6, s7] l)).toArray) ∧ Below w.heap.size w w' := by
  have HT := Lib.hid hT
  have HSm := Lib.hid hs
  clear hT hs
  have hA0 := (hA.below (((Below.refl w.heap.size w).alloc (Nat.le_refl _) (.cells (wc [s0, s1, s2, s3, s4, s5, s6, s7]).toArray 59)).alloc (by simp) (.cells (wc [0, 0, 0, 0, 0, 0, 0, 0]).toArray 59))).more (show w.heap.size ≤ w.heap.size + 2 by omega)
  have a0 := (Arr.new w (wc [s0, s1, s2, s3, s4, s5, s6, s7]).toArray 59).alloc (.cells (wc [0, 0, 0, 0, 0, 0, 0, 0]).toArray 59)
  have a1 := Arr.new (w.alloc (.cells (wc [s0, s1, s2, s3, s4, s5, s6, s7]).toArray 59)) (wc [0, 0, 0, 0, 0, 0, 0, 0]).toArray 59
  have hsz : (w.alloc (.cells (wc [s0, s1, s2, s3, s4, s5, s6, s7]).toArray 59)).heap.size = w.heap.size + 1 := by simp
  rw [hsz] at a1
  have hbw : Below w.heap.size w ((w.alloc (.cells (wc [s0, s1, s2, s3, s4, s5, s6, s7]).toArray 59)).alloc (.cells (wc [0, 0, 0, 0, 0, 0, 0, 0]).toArray 59)) := ((Below.refl w.heap.size w).alloc (Nat.le_refl _) _).alloc (by simp) _
  have hs2 : ((w.alloc (.cells (wc [s0, s1, s2, s3, s4, s5, s6, s7]).toArray 59)).alloc (.cells (wc [0, 0, 0, 0, 0, 0, 0, 0]).toArray 59)).heap.size = w.heap.size + 2 := by simp
  have e8 : (wc [s0, s1, s2, s3, s4, s5, s6, s7]).toArray = #[.int .u32 (s0 : Int), .int .u32 (s1 : Int), .int .u32 (s2 : Int), .int .u32 (s3 : Int), .int .u32 (s4 : Int), .int .u32 (s5 : Int), .int .u32 (s6 : Int), .int .u32 (s7 : Int)] := rfl
  have e0 : (wc [0, 0, 0, 0, 0, 0, 0, 0]).toArray = #[.int .u32 0, .int .u32 0, .int .u32 0, .int .u32 0, .int .u32 0, .int .u32 0, .int .u32 0, .int .u32 0] := rfl
  rw [e8, e0] at hA0 a0 a1 hbw hs2
  have hTW := HT.out.below hbw
  have HTW := Lib.hid hTW
  clear hTW HT
  have HA0 := Lib.hid hA0
  have Ha0 := Lib.hid a0
  have Ha1 := Lib.hid a1
  have Hbw := Lib.hid hbw
  have Hs2 := Lib.hid hs2
  clear hA0 a0 a1 hbw hs2 hsz e8 e0 hA
  go_enter Tryd.func51, Tryd.ntmps51
  go_wp2
  generalize hW : World.alloc _ _ = W at *
  clear hW
  go_loopw [5, 6] (fun v k wr => ∃ i : Nat, i ≤ 16 ∧ k = .int .i64 ((4 * i : Nat) : Int) ∧ URow (w.heap.size + 2) wr v ((words l).take i) ∧ Below (w.heap.size + 2) W wr) (fun _ k _ => 64 - (intOf k).toNat)
  case atStart => exact ⟨0, by omega, rfl, URow.nil _ _, Below.refl _ _⟩
  case round =>
    obtain ⟨i, hi, rfl, hrow, hb⟩ := hrel
    by_cases hlt : i < 16
    · have g1 : 4 * i < 64 := by omega
      have g2 : 4 * i + 4 ≤ c := by omega
      have g3 : 4 * i + 4 ≤ l.length := by omega
      have hd := (HA0.out.below hb).drop (4 * i)
      obtain ⟨ad, had, hadb, hcell⟩ := hd (by rw [List.length_drop]; omega)
      have HC := Lib.hid (fun (j : Nat) (h : j < 4) => by
        have h1 := hcell j (by rw [List.length_drop]; omega)
        rw [List.getElem_drop] at h1
        exact (show wr.cell? (ad.add j) = some (.int .u8 ((l[4 * i + j]'(by omega)).toNat : Int)) from h1))
      have HV := Lib.hid (fun (j : Nat) (h : j < 4) => val_take l i j (by omega))
      have HS := Lib.hid (fun (j : Nat) (h : j ≤ 3) => val_small l i j h)
      have HW := Lib.hid (words_take l i hlt)
      have g5 : 4 * i + 4 - 4 * i = 4 := by omega
      have hwl : ((words l).take i).length = i := by simp [words]; omega
      clear hcell hd
      go_wp2
      go_loop [7, 40] (fun n j => ∃ (k m : Nat), k ≤ 4 ∧ j = .int .i64 k ∧ m = VecM.val ((l.drop (4 * i)).take k) ∧ n = .int .u32 (m : Int)) (fun _ j => 4 - (intOf j).toNat)
      case atStart => exact ⟨0, 0, by omega, rfl, by simp [VecM.val], rfl⟩
      case round =>
        obtain ⟨k, m, hk, rfl, hm, rfl⟩ := hrel
        by_cases hk4 : k < 4
        · have hcl := HC.out k hk4
          have hv := HV.out k hk4
          have hs := HS.out k (by omega)
          rw [← hm] at hv hs
          have HM := Lib.hid hv
          generalize l[4 * i + k]'_ = y at *
          have hy := y.toNat_lt
          clear hm hv
          go_wp2
          go_round
          case rel => exact ⟨k + 1, m * 256 + y.toNat, by omega, by go_num, HM.out.symm, by go_num⟩
          case measure => simp [intOf]; omega
        · obtain rfl : k = 4 := by omega
          rw [← hm] at HW
          have HM := Lib.hid hm
          clear hm
          have hnew := newWord wr m
          have hsz := hb.size
          have hsz2 : w.heap.size + 2 ≤ (wr.alloc (.cells #[.int .u32 (m : Int)] 58)).heap.size := by simp; rw [Hs2.out] at hsz; omega
          generalize (words l).take i = xs at *
          go_wp2_with (at_builtin; go_must (refine uapp1 rfl (.tmp 50) (.tmp 52) rfl (w.heap.size + 2) _ xs rfl (hrow.alloc _) ⟨wr.heap.size, 0, none⟩ 1 m rfl hnew (by omega) hsz2 ?_))
          intro v2 w2 hr2 hb2
          go_wp2
          go_roundw
          case rel => exact ⟨i + 1, by omega, by go_num, by rw [HW.out]; exact hr2, (hb.alloc (by rw [← Hs2.out]; exact hsz) _).trans hb2⟩
          case measure => simp [intOf]; omega
    · obtain rfl : i = 16 := by omega
      rw [List.take_of_length_le (by simp [words])] at hrow
      clear HA0
      simp only [show ((4 * 16 : Nat) : Int) = 64 from rfl]
      go_wp2
      go_loopw [5, 10] (fun v k wr => ∃ (i : Nat), 16 ≤ i ∧ i ≤ 64 ∧ k = .int .i64 (i : Int) ∧ URow (w.heap.size + 2) wr v (ext (i - 16) (words l)) ∧ Below (w.heap.size + 2) W wr) (fun _ k _ => 64 - (intOf k).toNat)
      case atStart => exact ⟨16, by omega, by omega, rfl, hrow, hb⟩
      case round =>
        clear hrow hb
        obtain ⟨k, hk1, hk2, rfl, hrow, hb⟩ := hrel
        by_cases hk : k < 64
        · have hel : (ext (k - 16) (words l)).length = k := by rw [ext_len]; omega
          have hlt := ext_lt (k - 16) l
          have f16 : k - 16 < (ext (k - 16) (words l)).length := by omega
          have f7 : k - 7 < (ext (k - 16) (words l)).length := by omega
          have f15 : k - 15 < (ext (k - 16) (words l)).length := by omega
          have f2 : k - 2 < (ext (k - 16) (words l)).length := by omega
          have HE := Lib.hid (ext_succ l k hk1 f16 f7 f15 f2)
          obtain ⟨A1, c1, rfl, hU, hc1⟩ := hrow.form
          obtain ⟨ad, rfl, _, c16⟩ := hU.at_ (k := k - 16) f16
          obtain ⟨_, e, _, c7⟩ := hU.at_ (k := k - 7) f7
          cases e
          obtain ⟨_, e, _, c15⟩ := hU.at_ (k := k - 15) f15
          cases e
          obtain ⟨_, e, _, c2⟩ := hU.at_ (k := k - 2) f2
          cases e
          have l16 := hlt _ (List.getElem_mem f16)
          have l7 := hlt _ (List.getElem_mem f7)
          have l15 := hlt _ (List.getElem_mem f15)
          have l2 := hlt _ (List.getElem_mem f2)
          have HRow := Lib.hid hrow
          have HLen := Lib.hid hel
          have e16 : IntKind.i64.wrap ((k : Int) - 16) = ((k - 16 : Nat) : Int) := by rw [IntWalk.i64_in _ (by omega)]; omega
          have e7 : IntKind.i64.wrap ((k : Int) - 7) = ((k - 7 : Nat) : Int) := by rw [IntWalk.i64_in _ (by omega)]; omega
          have e15 : IntKind.i64.wrap ((k : Int) - 15) = ((k - 15 : Nat) : Int) := by rw [IntWalk.i64_in _ (by omega)]; omega
          have e2 : IntKind.i64.wrap ((k : Int) - 2) = ((k - 2 : Nat) : Int) := by rw [IntWalk.i64_in _ (by omega)]; omega
          clear hU hlt hrow hel
          generalize (ext (k - 16) (words l))[k - 16]'_ = wa at *
          generalize (ext (k - 16) (words l))[k - 7]'_ = wb at *
          generalize (ext (k - 16) (words l))[k - 15]'_ = wx at *
          generalize (ext (k - 16) (words l))[k - 2]'_ = wy at *
          generalize ext (k - 16) (words l) = xs at *
          go_wp2
          go_quiet (fail)
          go_wp2
          clear c15 c2
          have C7 := Lib.hid (turn_in wr 7 wx 7 rfl (by decide) (by decide) l15)
          have C18 := Lib.hid (turn_in wr 18 wx 18 rfl (by decide) (by decide) l15)
          have C17 := Lib.hid (turn_in wr 17 wy 17 rfl (by decide) (by decide) l2)
          have C19 := Lib.hid (turn_in wr 19 wy 19 rfl (by decide) (by decide) l2)
          have x1 := Bits.xor_u32 (rot 7 wx) (rot 18 wx) (rot_lt 7 wx (by decide) l15) (rot_lt 18 wx (by decide) l15)
          have x2 := Bits.xor_u32 (rot 17 wy) (rot 19 wy) (rot_lt 17 wy (by decide) l2) (rot_lt 19 wy (by decide) l2)
          obtain ⟨d1, hd1, q1⟩ : ∃ d1, d1 = wx / 8 ∧ IntKind.u32.wrap ((wx : Int) / 8) = (d1 : Int) := ⟨_, rfl, wrap_div wx 8 l15⟩
          obtain ⟨d2, hd2, q2⟩ : ∃ d2, d2 = wy / 1024 ∧ IntKind.u32.wrap ((wy : Int) / 1024) = (d2 : Int) := ⟨_, rfl, wrap_div wy 1024 l2⟩
          have x3 : bits .xor .u32 ((rot 7 wx ^^^ rot 18 wx : Nat) : Int) (d1 : Int) = (ls0 wx : Int) := by subst hd1; exact Bits.xor_u32 _ _ (xor_lt _ _ (rot_lt 7 wx (by decide) l15) (rot_lt 18 wx (by decide) l15)) (Nat.lt_of_le_of_lt (Nat.div_le_self _ _) l15)
          have x4 : bits .xor .u32 ((rot 17 wy ^^^ rot 19 wy : Nat) : Int) (d2 : Int) = (ls1 wy : Int) := by subst hd2; exact Bits.xor_u32 _ _ (xor_lt _ _ (rot_lt 17 wy (by decide) l2) (rot_lt 19 wy (by decide) l2)) (Nat.lt_of_le_of_lt (Nat.div_le_self _ _) l2)
          obtain ⟨p1, hp1, y1⟩ : ∃ p1, p1 = (wa + wb) % 4294967296 ∧ IntKind.u32.wrap ((wa : Int) + wb) = (p1 : Int) := ⟨_, rfl, wrap_add _ _⟩
          obtain ⟨p2, hp2, y2⟩ : ∃ p2, p2 = (p1 + ls0 wx) % 4294967296 ∧ IntKind.u32.wrap ((p1 : Int) + (ls0 wx : Int)) = (p2 : Int) := ⟨_, rfl, wrap_add _ _⟩
          obtain ⟨p3, hp3, y3⟩ : ∃ p3, p3 = nw wa wb wx wy ∧ IntKind.u32.wrap ((p2 : Int) + (ls1 wy : Int)) = (p3 : Int) := ⟨_, rfl, by rw [wrap_add]; unfold nw; omega⟩
          rw [← hp3] at HE
          clear hp1 hp2 hp3 hd1 hd2 l16 l7 l15 l2
          refine Phase.wp_region_phases [([0], [1, 2, 3, 4, 5, 6, 7, 8, 9, 10, 11, 12, 13, 14, 15, 16, 17, 18, 19, 20, 21, 22, 23, 24, 25, 26, 27, 28, 29], some 30), ([], [], some 31), ([], [], some 32)] (fun W => ∃ n, W = wr.drewN n) (by kernel_rfl) (by kernel_rfl) (fun _ _ d _ _ h => by cases d <;> exact h) ⟨nq + 1, rfl⟩ ?_
          refine Phase.g_alone rfl ?_
          refine Phase.p_step rfl (fun K hK => ?_)
          go_simp
          refine hK _ ?_
          clear hK K
          refine Phase.p_nil ?_
          repeat (refine Phase.q_step rfl (fun K hK => ?_); go_simp; first | (refine hK _ ?_; clear hK K) | (apply Exists.intro; refine ⟨fun _ => ?_, hK _ ?_⟩; (first | (with_reducible exact C7.out _) | (with_reducible exact C18.out _) | (with_reducible exact C17.out _) | (with_reducible exact C19.out _)); clear hK K))
          refine Phase.q_nil ?_
          rintro _ ⟨n1, rfl⟩ K hK
          go_simp
          refine hK _ _ ⟨fun W => W = (wr.drewN n1).alloc (.cells #[.int .u32 (p3 : Int)] 58), rfl, ?_⟩
          clear hK K C7 C18 C17 C19 x1 x2 x3 x4 q1 q2 y1 y2 y3
          have hb2 := drewN hb n1
          have hrow2 := ((HRow.out.below (drewN (Below.refl _ wr) n1)).alloc (.cells #[.int .u32 (p3 : Int)] 58))
          have hnew := newWord (wr.drewN n1) p3
          have hsz0 : (wr.drewN n1).heap.size = wr.heap.size := rfl
          have hs2 := hb.size
          rw [Hs2.out] at hs2
          refine Phase.g_alone rfl (Phase.p_nil (Phase.q_nil ?_))
          rintro _ rfl K hK
          refine Eq.mpr (if_pos (by rfl)) ?_
          refine uapp1_wp (.tmp 68) (.tmp 98) rfl (w.heap.size + 2) _ xs rfl hrow2 ⟨wr.heap.size, 0, none⟩ 1 p3 rfl hnew (by rw [HLen.out]; omega) (by simp; omega) ?_
          intro v2 w2 hr3 hb3
          refine hK _ _ ⟨fun W => W = w2, rfl, ?_⟩
          clear hK K
          have hbb := (hb2.alloc (by rw [hsz0]; omega) _).trans hb3
          refine Phase.g_alone rfl (Phase.p_nil (Phase.q_nil ?_))
          rintro w2 rfl K hK
          go_simp
          refine hK _ _ ⟨fun W => W = w2, rfl, ?_⟩
          clear hK K
          refine Phase.g_nil ?_
          rintro w2 rfl
          clear hb2 hb3 hb hnew hrow2 e16 e7 e15 e2
          go_wp2
          go_roundw
          case rel => exact ⟨k + 1, by omega, by omega, by go_num, by rw [HE.out]; exact hr3, hbb⟩
          case measure => simp [intOf]; omega
        · obtain rfl : k = 64 := by omega
          have hrow : URow (w.heap.size + 2) wr u5 (sched l) := hrow
          have hTr := HTW.out.below (hb.mono (by rw [Hs2.out]; exact Nat.le_refl _))
          have harr := Ha0.out.below hb (by omega)
          have c0 : wr.cell? ⟨w.heap.size, 0, none⟩ = some (.int .u32 (s0 : Int)) := harr.cell 0
          have c1 : wr.cell? ⟨w.heap.size, 1, none⟩ = some (.int .u32 (s1 : Int)) := harr.cell 1
          have c2 : wr.cell? ⟨w.heap.size, 2, none⟩ = some (.int .u32 (s2 : Int)) := harr.cell 2
          have c3 : wr.cell? ⟨w.heap.size, 3, none⟩ = some (.int .u32 (s3 : Int)) := harr.cell 3
          have c4 : wr.cell? ⟨w.heap.size, 4, none⟩ = some (.int .u32 (s4 : Int)) := harr.cell 4
          have c5 : wr.cell? ⟨w.heap.size, 5, none⟩ = some (.int .u32 (s5 : Int)) := harr.cell 5
          have c6 : wr.cell? ⟨w.heap.size, 6, none⟩ = some (.int .u32 (s6 : Int)) := harr.cell 6
          have c7 : wr.cell? ⟨w.heap.size, 7, none⟩ = some (.int .u32 (s7 : Int)) := harr.cell 7
          have HTr := Lib.hid hTr
          have Harr := Lib.hid harr
          have HRow := Lib.hid hrow
          clear hTr harr hrow
          simp only [show ((64 : Nat) : Int) = 64 from rfl]
          go_wp2
          go_quiet (fail)
          clear c0 c1 c2 c3 c4 c5 c6 c7
          go_wp2
          have hb1 := drewN hb nq
          have hrow1 := HRow.out.below (drewN (Below.refl _ wr) nq)
          have hsm := HSm.out
          obtain ⟨n0, hn0⟩ : ∃ W1, wr.drewN nq = W1 := ⟨_, rfl⟩
          rw [hn0] at hb1 hrow1 ⊢
          have HTn : Hid (TabK n0) := Lib.hid (by rw [← hn0]; exact HTr.out.below (drewN (Below.refl _ wr) nq))
          have Hb1 := Lib.hid hb1
          obtain ⟨AW, cW, rfl, hU, hcW⟩ := hrow1.form
          have HU := Lib.hid hU
          have hsl : (sched l).length = 64 := ext_len 48 l
          have HSl := Lib.hid hsl
          have hWlt : ∀ n ∈ sched l, n < 4294967296 := ext_lt 48 l
          have HWlt := Lib.hid hWlt
          have HSLe := Lib.hid (show block [s0, s1, s2, s3, s4, s5, s6, s7] l = List.zipWith (fun x y => (x + y) % 4294967296) [s0, s1, s2, s3, s4, s5, s6, s7] (rn (sched l) ⟨s0, s1, s2, s3, s4, s5, s6, s7⟩ 64).toList from rfl)
          clear hn0 hb HRow hb1 hrow1 hU hsl hWlt
          generalize sched l = SL at *
          go_loopw [13, 14, 15, 16, 17, 18, 19, 20, 116] (fun va vb vc vd ve vf vg vh i wr => ∃ (j a b c d e f g h : Nat), j ≤ 64 ∧ i = .int .i64 (j : Int) ∧ rn (SL) ⟨s0, s1, s2, s3, s4, s5, s6, s7⟩ j = ⟨a, b, c, d, e, f, g, h⟩ ∧ va = .int .u32 (a : Int) ∧ vb = .int .u32 (b : Int) ∧ vc = .int .u32 (c : Int) ∧ vd = .int .u32 (d : Int) ∧ ve = .int .u32 (e : Int) ∧ vf = .int .u32 (f : Int) ∧ vg = .int .u32 (g : Int) ∧ vh = .int .u32 (h : Int) ∧
              Below n0.heap.size n0 wr) (fun _ _ _ _ _ _ _ _ i _ => 64 - (intOf i).toNat)
          case atStart => exact ⟨0, s0, s1, s2, s3, s4, s5, s6, s7, by omega, rfl, rfl, rfl, rfl, rfl, rfl, rfl, rfl, rfl, rfl, Below.refl _ _⟩
          case round =>
            obtain ⟨j, a, b, c, d, e, f, g, h, hj, rfl, hrn, rfl, rfl, rfl, rfl, rfl, rfl, rfl, rfl, hb⟩ := hrel
            by_cases hlt : j < 64
            · have hsj := rn_small (SL) _ hsm j
              rw [hrn] at hsj
              obtain ⟨la, lb, lc, ld, le, lf, lg, lh⟩ := hsj
              simp only at la lb lc ld le lf lg lh
              have HRn := Lib.hid hrn
              clear hrn hsm
              have dj : decide ((j : Int) < 64) = true := decide_eq_true (by omega)
              go_wp2
              go_loopw [22, 23, 119] (fun v1 v2 i wr2 => ∃ (i' p q : Nat), i' ≤ 32 ∧ i = .int .i64 (i' : Int) ∧ p = ch e f g % 2 ^ i' ∧ q = maj a b c % 2 ^ i' ∧ v1 = .int .u32 (p : Int) ∧ v2 = .int .u32 (q : Int) ∧ Below wr.heap.size wr wr2) (fun _ _ i _ => 32 - (intOf i).toNat)
              case atStart => exact ⟨0, 0, 0, by omega, rfl, by simp [Nat.mod_one], by simp [Nat.mod_one], rfl, rfl, Below.refl _ _⟩
              case round =>
                obtain ⟨i, p, q, hi, rfl, hp, hq, rfl, rfl, hb2⟩ := hrel
                by_cases hi32 : i < 32
                · have HP := Lib.hid hp
                  have HQ := Lib.hid hq
                  clear hp hq
                  have hci := new_cell wr (.int .i64 (i : Int)) 3
                  have hb3 := (hb2.alloc hb2.size (.cells #[.int .i64 (i : Int)] 3))
                  have HE := Lib.hid (fun w h => bit_any e i ⟨wr.heap.size, 0, none⟩ hi32 w le h)
                  have HFq := Lib.hid (bit_in f i ⟨wr.heap.size, 0, none⟩ hi32 _ lf hci)
                  have HGq := Lib.hid (bit_in g i ⟨wr.heap.size, 0, none⟩ hi32 _ lg hci)
                  have HCh := ch_bt e f g i le hi32
                  have HMj := maj_bt a b c i
                  go_wp2_with fail
                  refine (HE.out _ hci).mono ?_
                  clear HE
                  rintro _ _ ⟨rfl, rfl⟩
                  have HAb := Lib.hid (fun w h => bit_any a i ⟨wr.heap.size, 0, none⟩ hi32 w la h)
                  have HBb := Lib.hid (fun w h => bit_any b i ⟨wr.heap.size, 0, none⟩ hi32 w lb h)
                  have HCb := Lib.hid (fun w h => bit_any c i ⟨wr.heap.size, 0, none⟩ hi32 w lc h)
                  have di : decide ((i : Int) < 32) = true := decide_eq_true (by omega)
                  have ba : bt a i ≤ 1 := by rcases bt_cases a i with h | h <;> omega
                  have bb : bt b i ≤ 1 := by rcases bt_cases b i with h | h <;> omega
                  have bc : bt c i ≤ 1 := by rcases bt_cases c i with h | h <;> omega
                  rcases bt_cases e i with h1 | h1
                  · rw [h1]
                    rw [h1] at HCh
                    have hB : bt (ch e f g) i = bt g i := HCh
                    obtain ⟨p2, hp2, hor⟩ : ∃ p2, p2 = ch e f g % 2 ^ (i + 1) ∧ bits .or .u32 (p : Int) ((bt g i : Int) * 2 ^ i % 4294967296) = (p2 : Int) := ⟨_, rfl, or_step _ i p _ HP.out (ch_lt e f g lg lf) hi32 hB.symm⟩
                    have HP2 := Lib.hid hp2
                    clear HCh hB h1 hp2
                    go_wp2_with fail
                    go_quiet (with_reducible exact HGq.out _)
                    clear hor HFq HGq
                    have hci2 : ((wr.alloc (.cells #[.int .i64 (i : Int)] 3)).drewN nq).cell? ⟨wr.heap.size, 0, none⟩ = some (.int .i64 (i : Int)) := hci
                    have hb4 := drewN hb3 nq
                    go_wp2_with fail
                    refine (HAb.out _ hci2).mono ?_
                    rintro _ _ ⟨rfl, rfl⟩
                    go_wp2_with fail
                    refine (HBb.out _ hci2).mono ?_
                    rintro _ _ ⟨rfl, rfl⟩
                    go_wp2_with fail
                    refine (HCb.out _ hci2).mono ?_
                    rintro _ _ ⟨rfl, rfl⟩
                    clear HAb HBb HCb
                    generalize bt a i = xa at *
                    generalize bt b i = xb at *
                    generalize bt c i = xc at *
                    by_cases hm : 1 < xa + xb + xc
                    · rw [if_pos hm] at HMj
                      obtain ⟨q2, hq2, hor⟩ : ∃ q2, q2 = maj a b c % 2 ^ (i + 1) ∧ bits .or .u32 (q : Int) (2 ^ i % 4294967296) = (q2 : Int) := ⟨_, rfl, or_one _ i q HQ.out (maj_lt a b c lb lc) hi32 HMj⟩
                      have HQ2 := Lib.hid hq2
                      have hd : decide ((1 : Int) < (xa : Int) + xb + xc) = true := decide_eq_true (by omega)
                      clear HMj hq2 hm
                      go_wp2
                      go_roundw
                      case rel => exact ⟨i + 1, p2, q2, by omega, by go_num, HP2.out, HQ2.out, rfl, rfl, hb4⟩
                      case measure => simp [intOf]; omega
                    · rw [if_neg hm] at HMj
                      have HQ2 := Lib.hid (HQ.out.trans (low_bit0 _ i HMj).symm)
                      have hd : decide ((1 : Int) < (xa : Int) + xb + xc) = false := decide_eq_false (by omega)
                      clear HMj hm
                      go_wp2
                      go_roundw
                      case rel => exact ⟨i + 1, p2, q, by omega, by go_num, HP2.out, HQ2.out, rfl, rfl, hb4⟩
                      case measure => simp [intOf]; omega
                  · rw [h1]
                    rw [h1] at HCh
                    have hB : bt (ch e f g) i = bt f i := HCh
                    obtain ⟨p2, hp2, hor⟩ : ∃ p2, p2 = ch e f g % 2 ^ (i + 1) ∧ bits .or .u32 (p : Int) ((bt f i : Int) * 2 ^ i % 4294967296) = (p2 : Int) := ⟨_, rfl, or_step _ i p _ HP.out (ch_lt e f g lg lf) hi32 hB.symm⟩
                    have HP2 := Lib.hid hp2
                    clear HCh hB h1 hp2
                    go_wp2_with fail
                    go_quiet (with_reducible exact HFq.out _)
                    clear hor HFq HGq
                    have hci2 : ((wr.alloc (.cells #[.int .i64 (i : Int)] 3)).drewN nq).cell? ⟨wr.heap.size, 0, none⟩ = some (.int .i64 (i : Int)) := hci
                    have hb4 := drewN hb3 nq
                    go_wp2_with fail
                    refine (HAb.out _ hci2).mono ?_
                    rintro _ _ ⟨rfl, rfl⟩
                    go_wp2_with fail
                    refine (HBb.out _ hci2).mono ?_
                    rintro _ _ ⟨rfl, rfl⟩
                    go_wp2_with fail
                    refine (HCb.out _ hci2).mono ?_
                    rintro _ _ ⟨rfl, rfl⟩
                    clear HAb HBb HCb
                    generalize bt a i = xa at *
                    generalize bt b i = xb at *
                    generalize bt c i = xc at *
                    by_cases hm : 1 < xa + xb + xc
                    · rw [if_pos hm] at HMj
                      obtain ⟨q2, hq2, hor⟩ : ∃ q2, q2 = maj a b c % 2 ^ (i + 1) ∧ bits .or .u32 (q : Int) (2 ^ i % 4294967296) = (q2 : Int) := ⟨_, rfl, or_one _ i q HQ.out (maj_lt a b c lb lc) hi32 HMj⟩
                      have HQ2 := Lib.hid hq2
                      have hd : decide ((1 : Int) < (xa : Int) + xb + xc) = true := decide_eq_true (by omega)
                      clear HMj hq2 hm
                      go_wp2
                      go_roundw
                      case rel => exact ⟨i + 1, p2, q2, by omega, by go_num, HP2.out, HQ2.out, rfl, rfl, hb4⟩
                      case measure => simp [intOf]; omega
                    · rw [if_neg hm] at HMj
                      have HQ2 := Lib.hid (HQ.out.trans (low_bit0 _ i HMj).symm)
                      have hd : decide ((1 : Int) < (xa : Int) + xb + xc) = false := decide_eq_false (by omega)
                      clear HMj hm
                      go_wp2
                      go_roundw
                      case rel => exact ⟨i + 1, p2, q, by omega, by go_num, HP2.out, HQ2.out, rfl, rfl, hb4⟩
                      case measure => simp [intOf]; omega
                · obtain rfl : i = 32 := by omega
                  rw [Nat.mod_eq_of_lt (ch_lt e f g lg lf)] at hp
                  rw [Nat.mod_eq_of_lt (maj_lt a b c lb lc)] at hq
                  have hbn := hb.trans (hb2.mono hb.size)
                  have ck := HTn.out.below hbn j hlt
                  have hjl : j < (SL).length := by rw [HSl.out]; exact hlt
                  obtain ⟨ad, had, _, cw⟩ := (HU.out.below hbn).at_ hjl
                  subst had
                  have lw := HWlt.out _ (List.getElem_mem hjl)
                  have HNew : Hid (rn (SL) ⟨s0, s1, s2, s3, s4, s5, s6, s7⟩ (j + 1) = rnd (K.getD j 0) ((SL)[j]'hjl) ⟨a, b, c, d, e, f, g, h⟩) := Lib.hid (by rw [rn, HRn.out, List.getD_eq_getElem?_getD (l := SL), List.getElem?_eq_getElem hjl]; rfl)
                  generalize (SL)[j]'hjl = wj at *
                  generalize K.getD j 0 = kj at *
                  have C6 := Lib.hid (turn_in wr 6 e 6 rfl (by decide) (by decide) le)
                  have C11 := Lib.hid (turn_in wr 11 e 11 rfl (by decide) (by decide) le)
                  have C25 := Lib.hid (turn_in wr 25 e 25 rfl (by decide) (by decide) le)
                  have C2 := Lib.hid (fun w => turn_any 2 a 2 rfl (by decide) (by decide) la w)
                  have C13 := Lib.hid (fun w => turn_any 13 a 13 rfl (by decide) (by decide) la w)
                  have C22 := Lib.hid (fun w => turn_any 22 a 22 rfl (by decide) (by decide) la w)
                  obtain ⟨r1, hr1, x1⟩ : ∃ r, r = rot 6 e ^^^ rot 11 e ∧ bits .xor .u32 (rot 6 e : Int) (rot 11 e : Int) = (r : Int) := ⟨_, rfl, Bits.xor_u32 _ _ (rot_lt 6 e (by decide) le) (rot_lt 11 e (by decide) le)⟩
                  have lr1 : r1 < 4294967296 := by rw [hr1]; exact xor_lt _ _ (rot_lt 6 e (by decide) le) (rot_lt 11 e (by decide) le)
                  obtain ⟨r2, hr2, x2⟩ : ∃ r, r = bs1 e ∧ bits .xor .u32 (r1 : Int) (rot 25 e : Int) = (r : Int) := ⟨_, rfl, by rw [Bits.xor_u32 _ _ lr1 (rot_lt 25 e (by decide) le), hr1]; rfl⟩
                  obtain ⟨r3, hr3, x3⟩ : ∃ r, r = rot 2 a ^^^ rot 13 a ∧ bits .xor .u32 (rot 2 a : Int) (rot 13 a : Int) = (r : Int) := ⟨_, rfl, Bits.xor_u32 _ _ (rot_lt 2 a (by decide) la) (rot_lt 13 a (by decide) la)⟩
                  have lr3 : r3 < 4294967296 := by rw [hr3]; exact xor_lt _ _ (rot_lt 2 a (by decide) la) (rot_lt 13 a (by decide) la)
                  obtain ⟨r4, hr4, x4⟩ : ∃ r, r = bs0 a ∧ bits .xor .u32 (r3 : Int) (rot 22 a : Int) = (r : Int) := ⟨_, rfl, by rw [Bits.xor_u32 _ _ lr3 (rot_lt 22 a (by decide) la), hr3]; rfl⟩
                  obtain ⟨m1, hm1, y1⟩ : ∃ m, m = (h + r2) % 4294967296 ∧ IntKind.u32.wrap ((h : Int) + (r2 : Int)) = (m : Int) := ⟨_, rfl, wrap_add _ _⟩
                  obtain ⟨m2, hm2, y2⟩ : ∃ m, m = (m1 + p) % 4294967296 ∧ IntKind.u32.wrap ((m1 : Int) + (p : Int)) = (m : Int) := ⟨_, rfl, wrap_add _ _⟩
                  obtain ⟨m3, hm3, y3⟩ : ∃ m, m = (m2 + kj) % 4294967296 ∧ IntKind.u32.wrap ((m2 : Int) + (kj : Int)) = (m : Int) := ⟨_, rfl, wrap_add _ _⟩
                  obtain ⟨m4, hm4, y4⟩ : ∃ m, m = t1 kj wj ⟨a, b, c, d, e, f, g, h⟩ ∧ IntKind.u32.wrap ((m3 : Int) + (wj : Int)) = (m : Int) := ⟨_, rfl, by rw [wrap_add, hm3, hm2, hm1, hr2, hp]; unfold t1; simp only; omega⟩
                  obtain ⟨m5, hm5, y5⟩ : ∃ m, m = t2 ⟨a, b, c, d, e, f, g, h⟩ ∧ ((r4 : Int) + (q : Int)) % 4294967296 = (m : Int) := ⟨_, rfl, by rw [hr4, hq]; unfold t2; simp only; omega⟩
                  obtain ⟨m6, hm6, y6⟩ : ∃ m, m = (d + m4) % 4294967296 ∧ ((d : Int) + (m4 : Int)) % 4294967296 = (m : Int) := ⟨_, rfl, by omega⟩
                  obtain ⟨m7, hm7, y7⟩ : ∃ m, m = (m4 + m5) % 4294967296 ∧ ((m4 : Int) + (m5 : Int)) % 4294967296 = (m : Int) := ⟨_, rfl, by omega⟩
                  have HN2 : Hid (rn (SL) ⟨s0, s1, s2, s3, s4, s5, s6, s7⟩ (j + 1) = ⟨m7, a, b, c, m6, e, f, g⟩) := Lib.hid (by rw [HNew.out, rnd, ← hm4, ← hm5, ← hm6, ← hm7])
                  have lm4 : m4 < 4294967296 := by rw [hm4]; exact Nat.mod_lt _ (by decide)
                  have lm5 : m5 < 4294967296 := by rw [hm5]; exact Nat.mod_lt _ (by decide)
                  clear hr1 hr2 hr3 hr4 hm1 hm2 hm3 hm4 hm5 hm6 hm7 hp hq lr1 lr3 HNew HTn HU
                  go_wp2
                  go_quiet (first | (with_reducible exact C6.out _) | (with_reducible exact C11.out _) | (with_reducible exact C25.out _))
                  clear C6 C11 C25 x1 x2 y1 y2 y3 y4 ck cw
                  go_wp2_with fail
                  refine (C2.out _).mono ?_
                  rintro _ _ ⟨rfl, n2, rfl⟩
                  go_wp2_with fail
                  refine (C13.out _).mono ?_
                  rintro _ _ ⟨rfl, n3, rfl⟩
                  go_wp2_with fail
                  refine (C22.out _).mono ?_
                  rintro _ _ ⟨rfl, n4, rfl⟩
                  clear C2 C13 C22
                  go_wp2
                  go_roundw
                  case rel => exact ⟨j + 1, m7, a, b, c, m6, e, f, g, by omega, by go_num, HN2.out, by first | rfl | exact congrArg _ y7, rfl, rfl, rfl, by first | rfl | exact congrArg _ y6, rfl, rfl, rfl, drewN hbn _⟩
                  case measure => simp [intOf]; omega
            · obtain rfl : j = 64 := by omega
              have hbn := Hb1.out.trans (hb.mono (by have := Hb1.out.size; rw [Hs2.out] at this; exact this))
              have HB := Lib.hid HSLe.out
              rw [hrn] at HB
              have HBn := Lib.hid hbn
              have Har := Lib.hid (Ha0.out.below hbn (by omega))
              have Har1 := Lib.hid (Ha1.out.below hbn (by omega))
              clear HSLe hrn HWlt HSl HU HTn Hb1 hb hbn hsm
              simp only [show ((64 : Nat) : Int) = 64 from rfl]
              go_wp2
              obtain ⟨x, hx⟩ : ∃ x, x = [a, b, c, d, e, f, g, h] := ⟨_, rfl⟩
              obtain ⟨o, ho⟩ : ∃ o, o = [s0, s1, s2, s3, s4, s5, s6, s7] := ⟨_, rfl⟩
              obtain ⟨r, hr⟩ : ∃ r, r = List.zipWith (fun x y => (x + y) % 4294967296) o x := ⟨_, rfl⟩
              have hxl : x.length = 8 := by rw [hx]; rfl
              have HXk : Hid (∀ k, k < 8 → (wc x)[k]? = some (.int .u32 ((x.getD k 0 : Nat) : Int))) := Lib.hid (fun k hk => by unfold wc; rw [List.getElem?_map, List.getElem?_eq_getElem (by omega)]; simp [List.getD_eq_getElem?_getD, hxl, hk])
              have hol : o.length = 8 := by rw [ho]; rfl
              have hrl : r.length = 8 := by rw [hr, List.length_zipWith, hol, hxl]; rfl
              have HZ := Lib.hid (fun k hk => zip_get o x k hol hxl hk)
              rw [← hr] at HZ
              have HRl := Lib.hid hrl
              have HSt := Lib.hid (fun k hk => stage_set o r k hol hrl hk)
              have HGt := Lib.hid (fun k hk => stage_get o r k hol hrl hk)
              have HEnd := Lib.hid (stage_end o r hol hrl)
              have HBr : Hid (block [s0, s1, s2, s3, s4, s5, s6, s7] l = r) := Lib.hid (by rw [HB.out, hr, ho, hx]; rfl)
              have hsw := HBn.out.size
              rw [Hs2.out] at hsw
              have HX : Hid (Arr (wr.alloc (.cells #[.int .u32 (a : Int), .int .u32 (b : Int), .int .u32 (c : Int), .int .u32 (d : Int), .int .u32 (e : Int), .int .u32 (f : Int), .int .u32 (g : Int), .int .u32 (h : Int)] 58)) wr.heap.size 58 (wc x)) := Lib.hid (by rw [hx]; exact Arr.new wr _ _)
              have hA0 : Arr (wr.alloc (.cells #[.int .u32 (a : Int), .int .u32 (b : Int), .int .u32 (c : Int), .int .u32 (d : Int), .int .u32 (e : Int), .int .u32 (f : Int), .int .u32 (g : Int), .int .u32 (h : Int)] 58)) w.heap.size 59 (wc (stage o r 0)) := by
                rw [show stage o r 0 = o from by simp [stage], ho]
                exact Har.out.alloc _
              have hA1 := Har1.out.alloc (.cells #[.int .u32 (a : Int), .int .u32 (b : Int), .int .u32 (c : Int), .int .u32 (d : Int), .int .u32 (e : Int), .int .u32 (f : Int), .int .u32 (g : Int), .int .u32 (h : Int)] 58)
              have hbw : Below w.heap.size w (wr.alloc (.cells #[.int .u32 (a : Int), .int .u32 (b : Int), .int .u32 (c : Int), .int .u32 (d : Int), .int .u32 (e : Int), .int .u32 (f : Int), .int .u32 (g : Int), .int .u32 (h : Int)] 58)) := (Hbw.out.trans (HBn.out.mono (by omega))).alloc (by omega) _
              obtain ⟨gx, hgx⟩ : ∃ gx, wr.heap.size = gx := ⟨_, rfl⟩
              rw [hgx] at HX ⊢ hsw
              have HA0 := Lib.hid hA0
              have HA1 := Lib.hid hA1
              have HBW := Lib.hid hbw
              clear hA0 hA1 hbw HB Har Har1 hx ho hr hxl hol hrl HBn hgx
              generalize hWx : World.alloc _ _ = Wx at *
              clear hWx
              go_loopw [212] (fun i wr' => ∃ k : Nat, k ≤ 8 ∧ i = .int .i64 (k : Int) ∧ Arr wr' w.heap.size 59 (wc (stage o r k)) ∧ Arr wr' (w.heap.size + 1) 59 [.int .u32 0, .int .u32 0, .int .u32 0, .int .u32 0, .int .u32 0, .int .u32 0, .int .u32 0, .int .u32 0] ∧ Arr wr' gx 58 (wc x) ∧ Below w.heap.size w wr') (fun i _ => 8 - (intOf i).toNat)
              case atStart => exact ⟨0, by omega, rfl, HA0.out, HA1.out, HX.out, HBW.out⟩
              case round =>
                obtain ⟨k, hk, rfl, a0, a1, ax, hb⟩ := hrel
                by_cases hlt : k < 8
                · have c1 := a0.cell k
                  rw [HGt.out k hlt] at c1
                  have f1 := a0.frozen k
                  have cx := ax.cell k
                  have hxk : (wc x)[k]? = some (.int .u32 ((x.getD k 0 : Nat) : Int)) := HXk.out k hlt
                  rw [hxk] at cx
                  have hz := HZ.out k hlt
                  have hst := HSt.out k hlt
                  generalize o.getD k 0 = ok at *
                  generalize x.getD k 0 = xk at *
                  generalize r.getD k 0 = rk at *
                  have hsum : ((ok : Int) + (xk : Int)) % 4294967296 = (rk : Int) := by omega
                  have b0 := a0.set k (.int .u32 (rk : Int))
                  rw [hst] at b0
                  have B0 := Lib.hid b0
                  have B1 := Lib.hid (a1.other ⟨w.heap.size, k, none⟩ (.int .u32 (rk : Int)) (by simp))
                  have BX := Lib.hid (ax.other ⟨w.heap.size, k, none⟩ (.int .u32 (rk : Int)) (by simp; omega))
                  clear a0 a1 ax hz hst b0 hxk
                  go_wp2
                  go_roundw
                  case rel => exact ⟨k + 1, by omega, by go_num, B0.out, B1.out, BX.out, hb.setCell (Nat.le_refl _) _⟩
                  case measure => simp [intOf]; omega
                · obtain rfl : k = 8 := by omega
                  rw [HEnd.out] at a0
                  clear HZ HSt HGt HXk HEnd HX HA0 HA1 HBW ax
                  obtain ⟨r0, r1, r2, r3, r4, r5, r6, r7, hr⟩ := eight HRl.out
                  rw [hr] at a0
                  have HR := Lib.hid hr
                  clear hr
                  have c0 : wr.cell? ⟨w.heap.size, 0, none⟩ = some (.int .u32 (r0 : Int)) := a0.cell 0
                  have e0 : wr.cell? ⟨w.heap.size + 1, 0, none⟩ = some (.int .u32 0) := a1.cell 0
                  have f0 := a1.frozen 0
                  have c1 : wr.cell? ⟨w.heap.size, 1, none⟩ = some (.int .u32 (r1 : Int)) := a0.cell 1
                  have e1 : wr.cell? ⟨w.heap.size + 1, 1, none⟩ = some (.int .u32 0) := a1.cell 1
                  have f1 := a1.frozen 1
                  have c2 : wr.cell? ⟨w.heap.size, 2, none⟩ = some (.int .u32 (r2 : Int)) := a0.cell 2
                  have e2 : wr.cell? ⟨w.heap.size + 1, 2, none⟩ = some (.int .u32 0) := a1.cell 2
                  have f2 := a1.frozen 2
                  have c3 : wr.cell? ⟨w.heap.size, 3, none⟩ = some (.int .u32 (r3 : Int)) := a0.cell 3
                  have e3 : wr.cell? ⟨w.heap.size + 1, 3, none⟩ = some (.int .u32 0) := a1.cell 3
                  have f3 := a1.frozen 3
                  have c4 : wr.cell? ⟨w.heap.size, 4, none⟩ = some (.int .u32 (r4 : Int)) := a0.cell 4
                  have e4 : wr.cell? ⟨w.heap.size + 1, 4, none⟩ = some (.int .u32 0) := a1.cell 4
                  have f4 := a1.frozen 4
                  have c5 : wr.cell? ⟨w.heap.size, 5, none⟩ = some (.int .u32 (r5 : Int)) := a0.cell 5
                  have e5 : wr.cell? ⟨w.heap.size + 1, 5, none⟩ = some (.int .u32 0) := a1.cell 5
                  have f5 := a1.frozen 5
                  have c6 : wr.cell? ⟨w.heap.size, 6, none⟩ = some (.int .u32 (r6 : Int)) := a0.cell 6
                  have e6 : wr.cell? ⟨w.heap.size + 1, 6, none⟩ = some (.int .u32 0) := a1.cell 6
                  have f6 := a1.frozen 6
                  have c7 : wr.cell? ⟨w.heap.size, 7, none⟩ = some (.int .u32 (r7 : Int)) := a0.cell 7
                  have e7 : wr.cell? ⟨w.heap.size + 1, 7, none⟩ = some (.int .u32 0) := a1.cell 7
                  have f7 := a1.frozen 7
                  clear a0 a1
                  go_wp2
                  refine bodyPost_ret (v := .agg #[.int .u32 (r0 : Int), .int .u32 (r1 : Int), .int .u32 (r2 : Int), .int .u32 (r3 : Int), .int .u32 (r4 : Int), .int .u32 (r5 : Int), .int .u32 (r6 : Int), .int .u32 (r7 : Int)]) (by simp [results, Tryd.results51, go_sem, World.cell?_setCell_same, e0, e1, e2, e3, e4, e5, e6, e7]) rfl ⟨?_, ?_⟩
                  · rw [HBr.out, HR.out]
                    rfl
                  · exact ((((((((hb.setCell (Nat.le_succ _) _).setCell (Nat.le_succ _) _).setCell (Nat.le_succ _) _).setCell (Nat.le_succ _) _).setCell (Nat.le_succ _) _).setCell (Nat.le_succ _) _).setCell (Nat.le_succ _) _).setCell (Nat.le_succ _) _)
end Go.Proofs.YtnlhcogmccladaaDoor.HashBlockW
