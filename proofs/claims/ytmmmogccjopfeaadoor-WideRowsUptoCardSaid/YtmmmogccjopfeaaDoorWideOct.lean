/-
  wide.octet, math/bits.Mul64 by 8, wide.begin: what they hand back. Conditions: in each statement.
-/
import Derived.Test.YtmmmogccjopfeaaDoorWideComp
import Derived.Test.YtmmmogccjopfeaaDoorWideEnd
import Derived.Test.YtmmmogccjopfeaaDoorArrL
namespace Go.Proofs.YtmmmogccjopfeaaDoor.WideOctW
open Go.RowKit BytesW CellsW LongsW ArrW ArrG ArrL WideM WideX WideTurnW WideMore WideEndW

set_option maxHeartbeats 1000000 in
set_option maxRecDepth 100000 in
theorem octet_any (ad : Addr) (S : List Nat) (n : Nat) (c k : Nat) (w : World) (hS : Ls w w.heap.size (some ad) S) (hn : S.length = n) (h8 : n ≤ 8) (hk : k < 8 * n) :
    Calls Tryd.prog 26 #[.slice (some ad) n c, .int .i64 (k : Int)] w fun e w' => e = .returned (.int .u8 ((db S k).toNat : Int)) ∧ w = w' := by
  have hq : k / 8 < S.length := by omega
  obtain ⟨ad', had, _, cs⟩ := hS.at_ hq
  cases had
  obtain ⟨sh, hsh⟩ : ∃ sh, 56 - k % 8 * 8 = sh := ⟨_, rfl⟩
  obtain ⟨q, hqe⟩ : ∃ q, k / 8 = q := ⟨_, rfl⟩
  have HC := Lib.hid (show S.getD (k / 8) 0 = S[k / 8] by simp [List.getD_eq_getElem?_getD, List.getElem?_eq_getElem hq])
  have Hsh := Lib.hid hsh
  generalize S[k / 8]'hq = y at *
  rw [hqe] at cs
  have e1 : (k : Int) / 8 = (q : Int) := by omega
  have e2 : (56 : Int) - (k : Int) % 8 * 8 = (sh : Int) := by omega
  have i1 : (q : Int) < (n : Int) := by omega
  have hq8 : q < 8 := by omega
  have hk64 : k < 64 := by omega
  have Hn := Lib.hid hn
  have HV : Hid ((y : Int) / 2 ^ sh % 256 = ((db S k).toNat : Int)) := Lib.hid (by
    unfold db
    rw [Hsh.out, HC.out, UInt8.toNat_ofNat']
    push_cast
    rfl)
  generalize db S k = v at *
  clear hsh hqe hq hn Hsh HC
  go_enter Tryd.func26, Tryd.ntmps26
  go_wp2
  go_ret
  refine ⟨?_, rfl⟩
  rw [← HV.out]
  rfl

theorem and32 (x : Nat) (hx : x < 18446744073709551616) : bits .and .u64 (x : Int) 4294967295 = ((x % 4294967296 : Nat) : Int) := by
  have h := Bits.and_u64 x 4294967295 hx (by decide)
  rw [show (4294967295 : Nat) = 2 ^ 32 - 1 from rfl, Nat.and_two_pow_sub_one_eq_mod] at h
  exact h

set_option maxHeartbeats 1000000 in
theorem mul_any (x : Nat) (hx : x < 1152921504606846976) (w : World) :
    Calls Tryd.prog 25 #[.int .u64 (x : Int), .int .u64 8] w fun e w' => e = .returned (.tuple #[.int .u64 0, .int .u64 ((x * 8 : Nat) : Int)]) ∧ w = w' := by
  obtain ⟨x0, h0, f0⟩ : ∃ x0 : Nat, x0 = x % 4294967296 ∧ bits .and .u64 (x : Int) 4294967295 = (x0 : Int) := ⟨_, rfl, and32 x (by omega)⟩
  obtain ⟨x1, h1, f1⟩ : ∃ x1 : Nat, x1 = x / 4294967296 ∧ (x : Int) / 4294967296 = (x1 : Int) := ⟨_, rfl, by omega⟩
  obtain ⟨a0, h2, f2⟩ : ∃ a0 : Nat, a0 = x0 * 8 ∧ IntKind.u64.wrap ((x0 : Int) * 8) = (a0 : Int) := ⟨_, rfl, by rw [u64_wrap]; omega⟩
  obtain ⟨a1, h3, f3⟩ : ∃ a1 : Nat, a1 = x1 * 8 ∧ IntKind.u64.wrap ((x1 : Int) * 8) = (a1 : Int) := ⟨_, rfl, by rw [u64_wrap]; omega⟩
  obtain ⟨c0, h4, f4⟩ : ∃ c0 : Nat, c0 = a0 / 4294967296 ∧ (a0 : Int) / 4294967296 = (c0 : Int) := ⟨_, rfl, by omega⟩
  obtain ⟨t, h5, f5⟩ : ∃ t : Nat, t = a1 + c0 ∧ IntKind.u64.wrap ((a1 : Int) + (c0 : Int)) = (t : Int) := ⟨_, rfl, by rw [u64_wrap]; omega⟩
  have ht : t < 4294967296 := by omega
  have f6 : bits .and .u64 (t : Int) 4294967295 = (t : Int) := by rw [and32 t (by omega), Nat.mod_eq_of_lt ht]
  have f7 : (t : Int) / 4294967296 = 0 := by omega
  have f8 : bits .and .u64 8 4294967295 = 8 := by decide
  have f9 : IntKind.u64.wrap ((x : Int) * 8) = ((x * 8 : Nat) : Int) := by rw [u64_wrap]; omega
  have fa : IntKind.u64.wrap (t : Int) = (t : Int) := by rw [u64_wrap]; omega
  have fb : IntKind.u64.wrap 0 = 0 := rfl
  generalize x * 8 = lo at *
  clear h0 h1 h2 h3 h4 h5 ht hx
  go_enter Tryd.func25, Tryd.ntmps25
  go_wp2
  go_ret2
  exact ⟨rfl, rfl⟩
/-- A message on its way, as cells. -/
def mc (S : List Nat) (n : Nat) (R : List UInt8) : List Value := lc S ++ (.int .u64 (n : Int) :: Lib.byteCells R)
theorem mc_len (S : List Nat) (n : Nat) (R : List UInt8) (h : S.length = 8) (hR : R.length = 128) : (mc S n R).length = 137 := by
  unfold mc
  rw [List.length_append, lc_length, List.length_cons, Lib.byteCells, List.length_map]
  omega
theorem mc_one (S : List Nat) (n : Nat) (R : List UInt8) : ∀ v ∈ mc S n R, v.oneCell' = true := by
  intro v hv
  unfold mc at hv
  rw [List.mem_append, List.mem_cons] at hv
  rcases hv with h | h | h
  · exact lc_one S v h
  · subst h; rfl
  · exact bytes_one R v h
theorem mc_long (S : List Nat) (n : Nat) (R : List UInt8) (h : S.length = 8) : (mc S n R)[8]? = some (.int .u64 (n : Int)) := by
  unfold mc
  rw [List.getElem?_append_right (by rw [lc_length]; omega), lc_length, h]
  rfl
theorem mc_setLong (S : List Nat) (n m : Nat) (R : List UInt8) (h : S.length = 8) : (mc S n R).set 8 (.int .u64 (m : Int)) = mc S m R := by
  unfold mc
  rw [List.set_append, if_neg (by rw [lc_length]; omega), lc_length, h]
  rfl

/-- The zero message. -/
theorem zeroM : ∃ zs : Array Value, zs = (mc (List.replicate 8 0) 0 (List.replicate 128 0)).toArray ∧ ¬ zs = #[] ∧ (∀ w, (zeroValue 46).run Tryd.prog w = .ok (.agg zs) w) ∧ (Tryd.prog.info? 46).map (·.size) = some 137 :=
  ⟨_, rfl, by simp [mc], zero_of_info (n := 137) (by kernel_rfl)⟩
theorem msg_struct : ∃ fs, Tryd.prog.underlying 46 = some (.struct fs) := struct_of (by kernel_rfl)
theorem build_IV (w : World) : (Instr.build 41 #[(0, .int .u64 7640891576956012808), (1, .int .u64 13503953896175478587), (2, .int .u64 4354685564936845355), (3, .int .u64 11912009170470909681), (4, .int .u64 5840696475078001361), (5, .int .u64 11170449401992604703), (6, .int .u64 2270897969802886507), (7, .int .u64 6620516959819538809)]).run Tryd.prog w = .ok (.agg (lc IV).toArray) w := by kernel_rfl
theorem build_M (w : World) : (Instr.build 46 #[(0, .agg (lc IV).toArray)]).run Tryd.prog w = .ok (.agg (mc IV 0 (List.replicate 128 0)).toArray) w := by kernel_rfl

set_option maxHeartbeats 1000000 in
set_option maxRecDepth 100000 in
theorem begin_any (w : World) : Calls Tryd.prog 15 #[] w fun e w' => e = .returned (.agg (mc IV 0 (List.replicate 128 0)).toArray) ∧ Below w.heap.size w w' := by
  obtain ⟨zs, hzs, hzn, hz, hi⟩ := zeroM
  obtain ⟨fs, u46⟩ := msg_struct
  have HZ := Lib.hid hzs
  have HI := Lib.hid hi
  have U46 := Lib.hid u46
  have NB := Lib.hid (mc_len IV 0 (List.replicate 128 0) rfl (by simp))
  have OB := Lib.hid (mc_one IV 0 (List.replicate 128 0))
  have b1 := Lib.hid build_IV
  have b2 := Lib.hid build_M
  obtain ⟨iv, hiv⟩ : ∃ iv, iv = (lc IV).toArray := ⟨_, rfl⟩
  rw [← hiv] at b1 b2
  obtain ⟨M, hM⟩ : ∃ M, M = mc IV 0 (List.replicate 128 0) := ⟨_, rfl⟩
  rw [← hM] at NB OB b2 ⊢
  clear hzs u46 hi hM hiv
  go_enter Tryd.func15, Tryd.ntmps15
  go_wp2_with (first | (refine buildL rfl rfl rfl (b1.out _) ?_) | (refine buildL rfl rfl rfl (b2.out _) ?_) | refine Arr.storeL (Arr.new w _ _) rfl 46 (.tmp 0) (.tmp 2) rfl rfl M rfl HI.out (by rw [HZ.out]; exact mc_len _ _ _ (by simp) (by simp)) NB.out OB.out ?_)
  generalize hw3 : World.setRow _ _ _ = w3
  obtain ⟨a0, hb3, hs3⟩ := filled hw3
  exact bodyPost_ret (v := .agg M.toArray) (by exact a0.ret rfl _ rfl U46.out rfl HI.out NB.out) rfl ⟨rfl, hb3⟩
end Go.Proofs.YtmmmogccjopfeaaDoor.WideOctW
