/-
  The document's own whole numbers: SetBytes, Uint64. Conditions: in each statement.
-/
import Derived.Test.YtmmmogccjopfeaaDoorBigFill
import Derived.Test.YtmmmogccjopfeaaDoorBits64
import Derived.Test.YtmmmogccjopfeaaDoorArrX
namespace Go.Proofs.YtmmmogccjopfeaaDoor.BigSetW
open Go.RowKit BytesW CellsW WordsW ArrW BigW BigNewW BigMulW BigFillW

theorem foldl_val (l : List UInt8) (n : Nat) : l.foldl (fun n c => n * 256 + c.toNat) n = n * 256 ^ l.length + VecM.val l := by
  induction l generalizing n with
  | nil => simp [VecM.val]
  | cons x r ih =>
    have e : VecM.val (x :: r) = x.toNat * 256 ^ r.length + VecM.val r := by
      show List.foldl _ (0 * 256 + x.toNat) r = _
      rw [ih, Nat.zero_mul, Nat.zero_add]
    rw [List.foldl_cons, ih, e, List.length_cons, Nat.pow_succ, Nat.add_mul, Nat.mul_assoc n 256, Nat.mul_comm 256, Nat.add_assoc]
theorem val_cons (x : UInt8) (l : List UInt8) : VecM.val (x :: l) = x.toNat * 256 ^ l.length + VecM.val l := by
  conv => lhs; unfold VecM.val
  rw [List.foldl_cons, foldl_val, Nat.zero_mul, Nat.zero_add]
theorem val_last (l : List UInt8) (k j : Nat) (hj : l.length - 1 - k = j) (hk : k < l.length) (h : j < l.length) : VecM.val (l.drop (l.length - (k + 1))) = l[j].toNat * 256 ^ k + VecM.val (l.drop (l.length - k)) := by
  rw [show l.length - (k + 1) = j by omega, List.drop_eq_getElem_cons h, val_cons, List.length_drop, show l.length - (j + 1) = k by omega, show j + 1 = l.length - k by omega]
theorem getElem_le_dval (L : List Nat) (k : Nat) (h : k < L.length) : L[k] * 4294967296 ^ k ≤ dval L := by
  have h1 := dval_set L k 0 h
  rw [Nat.zero_mul] at h1
  omega
theorem arr_grown {w w' : World} {g r : Nat} {t : TypeId} {xs : List Value} (h : Arr w g t xs) (hg : w.grownBy w' (some r)) (hne : g ≠ r) : Arr w' g t xs :=
  (hg.block g h.lt (fun e => hne (by cases e; rfl))).trans h
/-- The digit that a byte goes to is still below it. -/
theorem digit_small {L : List Nat} {k q r V : Nat} (hq : k / 4 = q) (hr : k % 4 * 8 = r) (h : q < L.length) (hV : dval L = V) (hlt : V < 256 ^ k) : L[q] < 2 ^ r := by
  have h1 := getElem_le_dval L q h
  have e : 256 ^ k = 2 ^ r * 4294967296 ^ q := by
    rw [show (256 : Nat) = 2 ^ 8 from rfl, show (4294967296 : Nat) = 2 ^ 32 from rfl, ← Nat.pow_mul, ← Nat.pow_mul, ← Nat.pow_add]
    congr 1
    omega
  rw [e] at hlt
  exact Nat.lt_of_mul_lt_mul_right (a := 4294967296 ^ q) (by omega)
theorem byte_in {o x r : Nat} (ho : o < 2 ^ r) (hx : x < 256) (hr : r ≤ 24) : bits .or .u32 (o : Int) ((x : Int) * 2 ^ r % 4294967296) = ((o + x * 2 ^ r : Nat) : Int) ∧ o + x * 2 ^ r < 4294967296 := by
  have hp : 2 ^ r * 256 ≤ 2 ^ 24 * 256 := Nat.mul_le_mul_right _ (Nat.pow_le_pow_right (by decide) hr)
  have h3 : (x + 1) * 2 ^ r ≤ 256 * 2 ^ r := Nat.mul_le_mul_right _ (by omega)
  rw [Nat.add_mul, Nat.mul_comm 256] at h3
  have e : (x : Int) * 2 ^ r % 4294967296 = ((x * 2 ^ r : Nat) : Int) := by
    rw [show (x : Int) * 2 ^ r = ((x * 2 ^ r : Nat) : Int) by rw [Int.natCast_mul, Int.natCast_pow]; rfl]
    omega
  refine ⟨?_, by omega⟩
  rw [e, Bits.or_u32 _ _ (by omega) (by omega), Nat.or_comm]
  have h6 := Nat.two_pow_add_eq_or_of_lt ho x
  rw [Nat.mul_comm (2 ^ r)] at h6
  rw [← h6, Nat.add_comm]
theorem set_step {L : List Nat} {k q r x V V' : Nat} (hq : k / 4 = q) (hr : k % 4 * 8 = r) (h : q < L.length) (hV : dval L = V) (hV' : V' = x * 256 ^ k + V) : dval (L.set q (L[q] + x * 2 ^ r)) = V' := by
  have h1 := dval_set L q (L[q] + x * 2 ^ r) h
  have e : 256 ^ k = 2 ^ r * 4294967296 ^ q := by
    rw [show (256 : Nat) = 2 ^ 8 from rfl, show (4294967296 : Nat) = 2 ^ 32 from rfl, ← Nat.pow_mul, ← Nat.pow_mul, ← Nat.pow_add]
    congr 1
    omega
  rw [hV', e, ← hV]
  rw [Nat.add_mul, Nat.mul_assoc] at h1
  omega
theorem dval_zeros (n : Nat) : dval (List.replicate n 0) = 0 := by
  induction n with
  | zero => rfl
  | succ n ih => rw [List.replicate_succ, dval, ih]

set_option maxHeartbeats 4000000 in
set_option maxRecDepth 100000 in
theorem setb_any (g : Nat) (b0 : Bool) (A0 : Option Addr) (n0 c0 : Nat) (A : Option Addr) (l : List UInt8) (c : Nat) (w : World) (ha : Arr w g 35 [.bool b0, .slice A0 n0 c0]) (hA : Bs w w.heap.size A l) (hl : l.length ≤ 1048576) :
    Calls Tryd.prog 21 #[.pointer (some ⟨g, 0, none⟩), .slice A l.length c] w fun e w' => e = .returned (.pointer (some ⟨g, 0, none⟩)) ∧ (∃ d, IntAt w' g false d ∧ dval d = VecM.val l) ∧ w.grownBy w' (some g) := by
  obtain ⟨N, hN⟩ : ∃ N, l.length / 4 + 1 = N := ⟨_, rfl⟩
  have hmk := makeU N (by omega) w
  have HN := Lib.hid hN
  have esum : (l.length : Int) / 4 + 1 = (N : Int) := by omega
  have ar0 := made_arr N w
  have az0 := ha.alloc (.cells (madeCells #[.int .u32 0] N) 51)
  have bb0 : Below w.heap.size w (w.alloc (.cells (madeCells #[.int .u32 0] N) 51)) := (Below.refl w.heap.size w).alloc (Nat.le_refl _) _
  have hs0 : (w.alloc (.cells (madeCells #[.int .u32 0] N) 51)).heap.size = w.heap.size + 1 := by simp
  have HA := Lib.hid hA
  have hgz := ha.lt
  clear hN ha hA
  go_enter Tryd.func21, Tryd.ntmps21
  go_upto_region 2 with (fail)
  clear hmk esum
  obtain ⟨W, hW⟩ : ∃ W, w.alloc (.cells (madeCells #[.int .u32 0] N) 51) = W := ⟨_, rfl⟩
  rw [hW] at ar0 az0 bb0 hs0 ⊢
  clear hW
  have AZ := Lib.hid az0
  have BB := Lib.hid bb0
  have HS := Lib.hid hs0
  clear az0 bb0 hs0
  go_wp2
  go_loopw [6, 14] (fun _ vi wr => ∃ (k : Nat) (L : List Nat), k ≤ l.length ∧ vi = .int .i64 (k : Int) ∧ Arr wr w.heap.size 51 (wc L) ∧ L.length = N ∧ (∀ x ∈ L, x < 4294967296) ∧ dval L = VecM.val (l.drop (l.length - k)) ∧ W.grownBy wr (some w.heap.size)) (fun _ vi _ => l.length - (intOf vi).toNat)
  case atStart => exact ⟨0, _, Nat.zero_le _, rfl, ar0, by simp, (by intro x hx; simp at hx; omega), by rw [dval_zeros, Nat.sub_zero, List.drop_length]; rfl, ⟨rfl, rfl, rfl, Nat.le_refl _, fun _ _ _ => rfl⟩⟩
  case round =>
    clear ar0
    obtain ⟨k, L, hk, rfl, ar, hLl, hLs, hLv, hg⟩ := hrel
    by_cases hlt : k < l.length
    · obtain ⟨j, hj⟩ : ∃ j, l.length - 1 - k = j := ⟨_, rfl⟩
      obtain ⟨q, hq⟩ : ∃ q, k / 4 = q := ⟨_, rfl⟩
      obtain ⟨r, hr⟩ : ∃ r, k % 4 * 8 = r := ⟨_, rfl⟩
      have hjl : j < l.length := by omega
      have hNo := HN.out
      have hqL : q < L.length := by omega
      have hqN : q < N := by omega
      obtain ⟨m4, hm4⟩ : ∃ m, k % 4 = m := ⟨_, rfl⟩
      obtain ⟨l1, hl1⟩ : ∃ m, l.length - 1 = m := ⟨_, rfl⟩
      have e1 : IntKind.i64.wrap ((k : Int) / 4) = (q : Int) := by rw [IntWalk.i64_in _ (by omega)]; omega
      have e2 : IntKind.i64.wrap ((l.length : Int) - 1) = (l1 : Int) := by rw [IntWalk.i64_in _ (by omega)]; omega
      have e2' : IntKind.i64.wrap ((l1 : Int) - (k : Int)) = (j : Int) := by rw [IntWalk.i64_in _ (by omega)]; omega
      have e3 : (k : Int).tmod 4 = (m4 : Int) := by rw [Int.tmod_eq_emod_of_nonneg (by omega)]; omega
      have e3' : IntKind.i64.wrap ((m4 : Int) * 8) = (r : Int) := by rw [IntWalk.i64_in _ (by omega)]; omega
      have hr24 : r ≤ 24 := by omega
      obtain ⟨ad, had, _, cx⟩ := (HA.out.below (BB.out.trans (below_of_grown hg (Nat.le_refl _) (by rw [HS.out]; omega)))).at_ hjl
      subst had
      have HV := Lib.hid (val_last l k j hj hlt hjl)
      have hvl := VecM.val_lt (l.drop (l.length - k))
      rw [List.length_drop, show l.length - (l.length - k) = k by omega] at hvl
      have ho := digit_small hq hr hqL hLv hvl
      have HSV := Lib.hid (fun x V' h => set_step (x := x) (V' := V') hq hr hqL hLv h)
      have hx := (l[j]'hjl).toNat_lt
      generalize (l[j]'hjl).toNat = x at *
      have co := ar.cell q
      rw [wc_at L q hqL] at co
      have fo := ar.frozen q
      have HLs := Lib.hid hLs
      have HLl := Lib.hid hLl
      have AR := Lib.hid ar
      have HG := Lib.hid hg
      generalize L[q]'hqL = o at *
      obtain ⟨hor, hol⟩ := byte_in ho hx hr24
      obtain ⟨y, hy⟩ : ∃ y, o + x * 2 ^ r = y := ⟨_, rfl⟩
      rw [hy] at hor hol
      have HY := Lib.hid hy
      have wx : IntKind.u32.wrap (x : Int) = (x : Int) := by rw [IntKind.wrap_u32]; omega
      have hw : IntKind.u32.wrap ((x : Int) * 2 ^ r) = (x : Int) * 2 ^ r % 4294967296 := IntKind.wrap_u32 _
      clear hLs hLv hLl hg ar hvl ho hy hq hr hj hm4 hl1
      go_upto_region 5 with (fail)
      refine Phase.wp_region_phases [([], [0, 1, 2, 3, 4, 5, 6, 7, 8, 9, 10, 11, 12, 13, 14, 15, 16, 17, 18, 19], some 20)] (fun W => W = wr.drew) (by kernel_rfl) (by kernel_rfl) (fun _ _ d _ _ h => by cases d <;> exact h) rfl ?_
      refine Phase.g_alone rfl (Phase.p_nil ?_)
      repeat (refine Phase.q_step rfl (fun K hK => ?_); go_simp; refine hK _ ?_; clear hK K)
      refine Phase.q_nil ?_
      rintro _ rfl K hK
      go_simp
      refine hK _ _ ⟨fun W => W = wr.drew.setCell ⟨w.heap.size, q, none⟩ (.int .u32 (y : Int)), rfl, ?_⟩
      clear hK K
      refine Phase.g_nil ?_
      rintro _ rfl
      clear co fo cx hor hw wx e1 e2 e2' e3 e3'
      go_wp2
      go_roundw
      case rel =>
        refine ⟨k + 1, L.set q y, by omega, by go_num, ?_, by rw [List.length_set]; exact HLl.out, small_set L q y HLs.out hol, by rw [← HY.out]; exact HSV.out x _ HV.out, grown_trans HG.out (grown_trans (grown_set wr w.heap.size q _) ⟨rfl, rfl, rfl, Nat.le_refl _, fun _ _ _ => rfl⟩)⟩
        have := AR.out.drew.set q (.int .u32 (y : Int))
        rw [wc_set] at this
        exact this
      case measure => simp [intOf]; omega
    · obtain rfl : k = l.length := by omega
      have hLv' : dval L = VecM.val l := by rw [hLv, Nat.sub_self, List.drop_zero]
      have ct : decide (((l.length : Nat) : Int) < (l.length : Int)) = false := decide_eq_false (by omega)
      have az2 := arr_grown AZ.out hg (by omega)
      have hul := us_of_arr ar
      have fz := az2.frozen 0
      have az3 := az2.set 0 (.bool false)
      have fz1 := az3.frozen 1
      have kz0 : wr.cell? ⟨g, 0, none⟩ = some (.bool b0) := az2.cell 0
      have kz1 : (wr.setCell ⟨g, 0, none⟩ (.bool false)).cell? ⟨g, 1, none⟩ = some (.slice A0 n0 c0) := az3.cell 1
      have az4 := az3.set 1 (.slice (some ⟨w.heap.size, 0, none⟩) N N)
      simp only [List.set_cons_zero, List.set_cons_succ] at az3 az4
      have hu3 := Us.other (k := 0) az2 hul (.bool false)
      have hu4 := Us.other (k := 1) az3 hu3 (.slice (some ⟨w.heap.size, 0, none⟩) N N)
      obtain ⟨W2, hW2⟩ : ∃ W2, (wr.setCell ⟨g, 0, none⟩ (.bool false)).setCell ⟨g, 1, none⟩ (.slice (some ⟨w.heap.size, 0, none⟩) N N) = W2 := ⟨_, rfl⟩
      have hbr := BB.out.trans (below_of_grown hg (Nat.le_refl _) (by rw [HS.out]; omega))
      have hgr : w.grownBy W2 (some g) := by
        rw [← hW2]
        exact grown_trans (grown_trans (grown_of_below hbr) (grown_set _ _ _ _)) (grown_set _ _ _ _)
      have hsz : W2.heap.size = wr.heap.size := by rw [← hW2]; simp
      rw [hW2] at az4 hu4
      have HNo := HN.out
      have ht := trim_any g false (some ⟨w.heap.size, 0, none⟩) L N W2 (by rw [hLl]; exact az4) (by show Us W2 W2.heap.size _ _; rw [hsz]; exact hu4) (by rw [hLl]; exact Nat.le_refl _) hLs (by rw [hLl]; omega)
      simp only [Bool.false_and] at ht
      have HT := Lib.hid ht
      have HG := Lib.hid hgr
      have HW2 := Lib.hid hW2
      have HLv := Lib.hid hLv'
      clear ht hgr hW2 hu4 hu3 az4 hul hsz hLv hLv' hLs hLl az2 az3 ar hg hbr
      go_upto_region 8 with (fail)
      rw [HW2.out]
      clear fz fz1 kz0 kz1 ct
      go_wp2_with fail
      refine HT.out.mono ?_
      clear HT
      rintro e w' ⟨rfl, hI, hg⟩
      go_wp2
      go_ret
      exact ⟨rfl, ⟨_, hI, (dval_trim L).trans HLv.out⟩, grown_trans HG.out hg⟩

/-- The lowest 64 bits. -/
theorem dval_two (d : List Nat) (h : d.length ≤ 2) : d = [] ∨ (∃ a, d = [a]) ∨ ∃ a b, d = [a, b] := by
  match d, h with
  | [], _ => exact .inl rfl
  | [a], _ => exact .inr (.inl ⟨a, rfl⟩)
  | [a, b], _ => exact .inr (.inr ⟨a, b, rfl⟩)
theorem or_join {a b : Nat} (ha : a < 4294967296) (hb : b < 4294967296) : bits .or .u64 ((b : Int) * 4294967296) (a : Int) = ((a + 4294967296 * b : Nat) : Int) := by
  have e : (b : Int) * 4294967296 = ((b * 4294967296 : Nat) : Int) := by omega
  rw [e, Bits.or_u64 _ _ (by omega) (by omega)]
  have h6 := Nat.two_pow_add_eq_or_of_lt (i := 32) (show a < 2 ^ 32 from ha) b
  rw [show (2 : Nat) ^ 32 = 4294967296 from rfl] at h6
  rw [Nat.mul_comm b, ← h6, Nat.add_comm]

set_option maxHeartbeats 4000000 in
set_option maxRecDepth 100000 in
theorem u64_any (g : Nat) (neg : Bool) (d : List Nat) (w : World) (h : IntAt w g neg d) (hd : d.length ≤ 2) :
    Calls Tryd.prog 22 #[.pointer (some ⟨g, 0, none⟩)] w fun e w' => e = .returned (.int .u64 (dval d : Int)) ∧ w = w' := by
  obtain ⟨⟨A, c, ha, hu, hc⟩, hs, _⟩ := h
  rcases dval_two d hd with rfl | ⟨a, rfl⟩ | ⟨a, b, rfl⟩
  · have k1 : w.cell? ⟨g, 1, none⟩ = some (.slice A 0 c) := ha.cell 1
    clear hu hs ha
    go_enter Tryd.func22, Tryd.ntmps22
    go_wp2
    refine wp_loop_rounds 2 ?_
    rw [rounds_succ]
    go_wp2
    go_ret
    exact ⟨rfl, rfl⟩
  · have k1 : w.cell? ⟨g, 1, none⟩ = some (.slice A 1 c) := ha.cell 1
    obtain ⟨ad, rfl, _, c0⟩ := hu.at_ (k := 0) (by simp)
    rw [add_zero] at c0
    simp only [List.getElem_cons_zero] at c0
    have la := hs a (by simp)
    have h0 : bits .or .u64 0 (a : Int) = (a : Int) := by have := Bits.or_u64 0 a (by omega) (by omega); simpa using this
    clear hu hs ha
    go_enter Tryd.func22, Tryd.ntmps22
    go_wp2
    refine wp_loop_rounds 2 ?_
    rw [rounds_succ]
    go_wp2
    rw [rounds_succ]
    go_wp2
    go_ret
    exact ⟨by simp [dval], rfl⟩
  · have k1 : w.cell? ⟨g, 1, none⟩ = some (.slice A 2 c) := ha.cell 1
    obtain ⟨ad, rfl, _, c0⟩ := hu.at_ (k := 0) (by simp)
    obtain ⟨_, e, _, c1⟩ := hu.at_ (k := 1) (by simp)
    cases e
    rw [add_zero] at c0
    simp only [List.getElem_cons_zero, List.getElem_cons_succ] at c0 c1
    have la := hs a (by simp)
    have lb := hs b (by simp)
    have h0 : bits .or .u64 0 (b : Int) = (b : Int) := by have := Bits.or_u64 0 b (by omega) (by omega); simpa using this
    have HJ := or_join la lb
    rw [show ad.add 1 = ⟨ad.block, ad.off + 1, none⟩ from rfl] at c1
    have hc2 : 2 ≤ c := by simpa using hc
    clear hu hs ha hc
    go_enter Tryd.func22, Tryd.ntmps22
    go_wp2
    refine wp_loop_rounds 3 ?_
    rw [rounds_succ]
    go_wp2
    rw [rounds_succ]
    go_wp2
    rw [rounds_succ]
    go_wp2
    go_ret
    exact ⟨by simp [dval], rfl⟩
end Go.Proofs.YtmmmogccjopfeaaDoor.BigSetW
