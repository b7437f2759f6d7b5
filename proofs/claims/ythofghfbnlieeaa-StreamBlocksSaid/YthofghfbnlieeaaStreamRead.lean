/-
  stream.read: what it makes of a part of a variable of sixteen words. Conditions: in the statement.
-/
import Derived.Test.YthofghfbnlieeaaStreamRounds
import Derived.Test.YthofghfbnlieeaaStreamPut
namespace Go.Proofs.Ythofghfbnlieeaa.StreamReadW
open Go.RowKit BytesW CellsW WordsW ArrW ArrG HashM HashTurnW StreamM StreamStepW StreamPutW StreamWW StreamRoundsW

theorem or_step (v y j : Nat) (hj : j ≤ 3) (hv : v < 2 ^ (8 * j)) (hy : y < 256) : bits .or .u32 (v : Int) ((y : Int) * 2 ^ (8 * j) % 4294967296) = ((v + 2 ^ (8 * j) * y : Nat) : Int) := by
  have hp : 2 ^ (8 * j) ≤ 2 ^ 24 := Nat.pow_le_pow_right (by decide) (by omega)
  have h24 : (2 : Nat) ^ 24 = 16777216 := by decide
  have hlt : y * 2 ^ (8 * j) < 4294967296 := by
    have h1 : y * 2 ^ (8 * j) ≤ 255 * 2 ^ (8 * j) := Nat.mul_le_mul_right _ (by omega)
    omega
  have e1 : (y : Int) * 2 ^ (8 * j) % 4294967296 = ((2 ^ (8 * j) * y : Nat) : Int) := by
    have e : (y : Int) * 2 ^ (8 * j) = ((y * 2 ^ (8 * j) : Nat) : Int) := by push_cast; rfl
    rw [e, Nat.mul_comm]
    rw [Nat.mul_comm] at hlt
    omega
  rw [e1, Bits.or_u32 _ _ (by omega) (by rw [Nat.mul_comm]; exact hlt), Nat.or_comm, ← Nat.two_pow_add_eq_or_of_lt hv, Nat.add_comm]
theorem val4_snoc (l : List UInt8) (y : UInt8) : val4 (l ++ [y]) = val4 l + 256 ^ l.length * y.toNat := by
  induction l with
  | nil => simp [val4]
  | cons x r ih =>
    rw [List.cons_append, val4, ih, val4, List.length_cons, Nat.pow_succ, Nat.mul_add, Nat.add_assoc]
    congr 2
    rw [Nat.mul_comm (256 ^ r.length) 256, Nat.mul_assoc]
theorem val4_next (b : List UInt8) (m j : Nat) (h : m + j < b.length) : val4 ((b.drop m).take (j + 1)) = val4 ((b.drop m).take j) + 2 ^ (8 * j) * b[m + j].toNat := by
  have h1 : j < (b.drop m).length := by rw [List.length_drop]; omega
  rw [List.take_succ_eq_append_getElem h1, val4_snoc, List.length_take, Nat.min_eq_left (by omega), List.getElem_drop, show (256 : Nat) = 2 ^ 8 from rfl, ← Nat.pow_mul]
theorem val4_take_lt (b : List UInt8) (m j : Nat) : val4 ((b.drop m).take j) < 2 ^ (8 * j) := by
  have h := val4_lt ((b.drop m).take j)
  have h2 : ((b.drop m).take j).length ≤ j := by rw [List.length_take]; omega
  have h3 : 256 ^ ((b.drop m).take j).length ≤ 256 ^ j := Nat.pow_le_pow_right (by decide) h2
  rw [show (2 : Nat) ^ (8 * j) = 256 ^ j by rw [show (256 : Nat) = 2 ^ 8 from rfl, ← Nat.pow_mul]]
  omega

/-- The first k words read. -/
def rdT (X : List Nat) (off : Nat) (b : List UInt8) (k : Nat) : List Nat := X.take off ++ lwords (b.take (4 * k)) ++ X.drop (off + k)
theorem rdT_zero (X : List Nat) (off : Nat) (b : List UInt8) : rdT X off b 0 = X := by simp [rdT, lwords]
theorem rd_pre (X : List Nat) (off : Nat) (b : List UInt8) (k : Nat) (h : off ≤ X.length) (hb : 4 * k ≤ b.length) : (X.take off ++ lwords (b.take (4 * k))).length = off + k := by
  rw [List.length_append, List.length_take, lwords_len, List.length_take]; omega
theorem rdT_len (X : List Nat) (off : Nat) (b : List UInt8) (k : Nat) (h : off + k ≤ X.length) (hb : 4 * k ≤ b.length) : (rdT X off b k).length = X.length := by
  unfold rdT
  rw [List.length_append, rd_pre X off b k (by omega) hb, List.length_drop]; omega
theorem rdT_at (X : List Nat) (off : Nat) (b : List UInt8) (k : Nat) (h : off + k < X.length) (hb : 4 * k ≤ b.length) : (rdT X off b k).getD (off + k) 0 = X.getD (off + k) 0 := by
  unfold rdT
  rw [List.getD_eq_getElem?_getD, List.getD_eq_getElem?_getD, List.getElem?_append_right (by rw [rd_pre X off b k (by omega) hb]; exact Nat.le_refl _), rd_pre X off b k (by omega) hb, Nat.sub_self, List.getElem?_drop, Nat.add_zero]
theorem rdT_set (X : List Nat) (off : Nat) (b : List UInt8) (k : Nat) (h : off + k < X.length) (hb : 4 * k + 4 ≤ b.length) : (rdT X off b k).set (off + k) (val4 ((b.drop (4 * k)).take 4)) = rdT X off b (k + 1) := by
  unfold rdT
  rw [lwords_more b k hb, List.set_append, if_neg (by rw [rd_pre X off b k (by omega) (by omega)]; omega), rd_pre X off b k (by omega) (by omega), Nat.sub_self, List.drop_eq_getElem_cons h, List.set_cons_zero, show off + (k + 1) = off + k + 1 by omega]
  simp only [List.append_assoc, List.singleton_append]
/-- .. and word k of its first j bytes. -/
def rdJ (X : List Nat) (off : Nat) (b : List UInt8) (k j : Nat) : List Nat := (rdT X off b k).set (off + k) (val4 ((b.drop (4 * k)).take j))
theorem rdJ_zero (X : List Nat) (off : Nat) (b : List UInt8) (k : Nat) (h : off + k < X.length) (hb : 4 * k ≤ b.length) (hz : X.getD (off + k) 0 = 0) : rdJ X off b k 0 = rdT X off b k := by
  unfold rdJ
  have h1 := rdT_at X off b k h hb
  have h2 := rdT_len X off b k (by omega) hb
  rw [hz] at h1
  rw [show val4 ((b.drop (4 * k)).take 0) = 0 by simp [val4]]
  apply List.ext_getElem
  · simp
  · intro i h3 h4
    rw [List.getElem_set]
    split
    · rename_i e
      subst e
      rw [List.getD_eq_getElem?_getD, List.getElem?_eq_getElem h4] at h1
      exact h1.symm
    · rfl

set_option maxHeartbeats 8000000 in
set_option maxRecDepth 100000 in
theorem read_any (g off n c : Nat) (ad : Addr) (had : ∀ k, ad.add k = ⟨g, off + k, none⟩) (T : TypeId) (X : List Nat) (A : Option Addr) (b : List UInt8) (c' : Nat) (w : World) (hv : Arr w g T (wc X)) (hX : off + n ≤ X.length) (hXl : X.length ≤ 1000) (hz : ∀ k, k < n → X.getD (off + k) 0 = 0) (hb : b.length = 4 * n) (hA : Bs w w.heap.size A b) (hne : 0 < b.length → ∀ a, A = some a → a.block ≠ g) :
    Calls Try.prog 24 #[.slice (some ad) n c, .slice A b.length c'] w fun e w' => e = .returned (.tuple #[]) ∧ Arr w' g T (wc (X.take off ++ lwords b ++ X.drop (off + n))) ∧ w.grownBy w' (some g) := by
  have HAd := Lib.hid had
  have HV := Lib.hid hv
  have HX := Lib.hid hX
  have HXl := Lib.hid hXl
  have HZ := Lib.hid hz
  have HB := Lib.hid hb
  have HA := Lib.hid hA
  have HN := Lib.hid hne
  have hn1 : n ≤ 1000 := by omega
  clear had hv hX hXl hz hb hA hne
  go_enter Try.func24, Try.ntmps24
  go_wp2
  go_loopw [8] (fun vk wr => ∃ k : Nat, k ≤ n ∧ vk = .int .i64 (k : Int) ∧ Arr wr g T (wc (rdT X off b k)) ∧ w.grownBy wr (some g)) (fun vk _ => n - (intOf vk).toNat)
  case atStart => exact ⟨0, by omega, rfl, by rw [rdT_zero]; exact HV.out, grownRefl _ _⟩
  case round =>
    obtain ⟨k, hk, rfl, ak, gk⟩ := hrel
    have AK := Lib.hid ak
    have GK := Lib.hid gk
    clear ak gk
    by_cases hlt : k < n
    · have ct : decide ((k : Int) < (n : Int)) = true := decide_eq_true (by omega)
      go_wp2
      go_loopw [11] (fun vj wx => ∃ j : Nat, j ≤ 4 ∧ vj = .int .i64 (j : Int) ∧ Arr wx g T (wc (rdJ X off b k j)) ∧ w.grownBy wx (some g)) (fun vj _ => 4 - (intOf vj).toNat)
      case atStart => exact ⟨0, by omega, rfl, by rw [rdJ_zero X off b k (by have := HX.out; omega) (by have := HB.out; omega) (HZ.out k hlt)]; exact AK.out, GK.out⟩
      case round =>
        obtain ⟨j, hj, rfl, aj, gj⟩ := hrel
        have AJ := Lib.hid aj
        have GJ := Lib.hid gj
        clear aj gj
        by_cases hlj : j < 4
        · have cj : decide ((j : Int) < 4) = true := decide_eq_true (by omega)
          have hpb : 4 * k + j < b.length := by have := HB.out; omega
          have HNx := Lib.hid (show rdJ X off b k (j + 1) = (rdJ X off b k j).set (off + k) (val4 ((b.drop (4 * k)).take (j + 1))) by unfold rdJ; rw [List.set_set])
          have hvn := val4_next b (4 * k) j hpb
          have hlen : (rdJ X off b k j).length = X.length := by unfold rdJ; rw [List.length_set, rdT_len X off b k (by have := HX.out; omega) (by have := HB.out; omega)]
          have hat : (rdJ X off b k j).getD (off + k) 0 = val4 ((b.drop (4 * k)).take j) := by
            unfold rdJ
            rw [List.getD_eq_getElem?_getD, List.getElem?_set_self (by rw [rdT_len X off b k (by have := HX.out; omega) (by have := HB.out; omega)]; have := HX.out; omega)]
            rfl
          have co := AJ.out.cell (off + k)
          rw [wc_getD _ _ (by rw [hlen]; have := HX.out; omega), hat, ← HAd.out k] at co
          have fo := AJ.out.frozen (off + k)
          rw [← HAd.out k] at fo
          have hvl := val4_take_lt b (4 * k) j
          obtain ⟨ab, rfl, _, cb⟩ := (bs_keep HA.out GJ.out HN.out).at_ hpb
          obtain ⟨m, hm⟩ : ∃ m, 4 * k = m := ⟨_, rfl⟩
          obtain ⟨v, hv⟩ : ∃ v, val4 ((b.drop (4 * k)).take j) = v := ⟨_, rfl⟩
          obtain ⟨y, hy⟩ : ∃ y, b[4 * k + j].toNat = y := ⟨_, rfl⟩
          have hy256 : y < 256 := by rw [← hy]; exact (b[4 * k + j]).toNat_lt
          obtain ⟨v2, hv2⟩ : ∃ v2, val4 ((b.drop (4 * k)).take (j + 1)) = v2 := ⟨_, rfl⟩
          rw [hy, hv, hv2] at hvn
          rw [hy] at cb
          rw [hv] at co hvl
          rw [hv2] at HNx
          have hor := or_step v y j (by omega) hvl hy256
          rw [← hvn] at hor
          rw [hm] at cb
          obtain ⟨p, hp⟩ : ∃ p, m + j = p := ⟨_, rfl⟩
          rw [hp] at cb
          have e1 : IntKind.i64.wrap (4 * (k : Int)) = (m : Int) := by rw [IntWalk.i64_in _ (by omega)]; omega
          have e2 : IntKind.i64.wrap ((m : Int) + (j : Int)) = (p : Int) := by rw [IntWalk.i64_in _ (by omega)]; omega
          have ip : (p : Int) < (b.length : Int) := by omega
          obtain ⟨sh, hsh⟩ : ∃ sh, 8 * j = sh := ⟨_, rfl⟩
          have wsh : IntKind.i64.wrap (8 * (j : Int)) = (sh : Int) := by rw [IntWalk.i64_in _ (by omega)]; omega
          rw [hsh] at hor
          have hsm : sh ≤ 24 := by omega
          have ik : (k : Int) < (n : Int) := by omega
          have wy : IntKind.u32.wrap (y : Int) = (y : Int) := by rw [IntKind.wrap_u32]; omega
          have hor' : bits .or .u32 (v : Int) (IntKind.u32.wrap ((y : Int) * 2 ^ sh)) = (v2 : Int) := by rw [IntKind.wrap_u32]; exact hor
          have HOr := Lib.hid hor'
          have an := AJ.out.drew.set (off + k) (.int .u32 (v2 : Int))
          rw [wc_set, ← HNx.out, ← HAd.out k] at an
          have gn := grownTrans GJ.out (grownTrans (grownDrew wr (some g)) (grownSet wr.drew g (off + k) (.int .u32 (v2 : Int))))
          rw [← HAd.out k] at gn
          have AN := Lib.hid an
          have GN := Lib.hid gn
          clear hm hv hy hv2 hvn hp hsh hat hlen hvl hor an gn hpb hor'
          go_upto_region 6 with (fail)
          refine Phase.wp_region_phases [([], [0, 1, 2, 3, 4, 5, 6, 7, 8, 9, 10, 11, 12, 13, 14, 15, 16], some 17)] (fun W => W = wr.drew) (by kernel_rfl) (by kernel_rfl) (fun _ _ d _ _ h => by cases d <;> exact h) rfl ?_
          refine Phase.g_alone rfl (Phase.p_nil ?_)
          iterate 17 (refine Phase.q_step rfl (fun K hK => ?_); go_simp; refine hK _ ?_; clear hK K)
          refine Phase.q_nil ?_
          rintro _ rfl K hK
          go_simp
          rw [HOr.out]
          obtain ⟨w2, hw2⟩ : ∃ x, wr.drew.setCell (ad.add k) (.int .u32 (v2 : Int)) = x := ⟨_, rfl⟩
          rw [hw2] at AN GN
          refine hK _ _ ⟨fun W => W = w2, hw2, ?_⟩
          clear hK K hw2 co fo cb
          refine Phase.g_nil ?_
          intro wz hz
          rw [show wz = w2 from hz]
          clear hz
          go_wp2
          go_roundw
          case rel => exact ⟨j + 1, by omega, by go_num, AN.out, GN.out⟩
          case measure => simp [intOf]; omega
        · obtain rfl : j = 4 := by omega
          have cj : decide (((4 : Nat) : Int) < 4) = false := rfl
          have HNx := Lib.hid (rdT_set X off b k (by have := HX.out; omega) (by have := HB.out; omega))
          have AF := Lib.hid (show Arr wr g T (wc (rdT X off b (k + 1))) by rw [← HNx.out]; exact AJ.out)
          clear AK GK AJ HNx
          go_wp2
          go_roundw
          case rel => exact ⟨k + 1, by omega, by go_num, AF.out, GJ.out⟩
          case measure => simp [intOf]; omega
    · obtain rfl : k = n := by omega
      have ct : decide ((k : Int) < (k : Int)) = false := decide_eq_false (by omega)
      have hE : rdT X off b k = X.take off ++ lwords b ++ X.drop (off + k) := by unfold rdT; rw [show b.take (4 * k) = b from List.take_of_length_le (by have := HB.out; omega)]
      rw [hE] at AK
      clear hE
      go_wp2
      exact bodyPost_end (v := .tuple #[]) (results_none (by rfl) _ _ _) rfl ⟨rfl, AK.out, GK.out⟩
end Go.Proofs.Ythofghfbnlieeaa.StreamReadW
