/-
  The walk of ticketwardkeep.StreamBlocks: it returns true and writes nothing that was there. Conditions: the form's own reach.
-/
import Derived.Test.YthofghfbnlieeaaStreamAlive
import Derived.Test.YthofghfbnlieeaaKd
namespace Go.Proofs.Ythofghfbnlieeaa.StreamBlocksL
open Go.RowKit BytesW ArrW ArrG StreamM StreamSumW

theorem wf_i64 {n : Int} (h : (Lit.int .i64 n).wf = true) : -9223372036854775808 ≤ n ∧ n < 9223372036854775808 := by
  have hx : -9223372036854775808 ≤ n ∧ n ≤ 9223372036854775807 := by simpa [Lit.wf, IntKind.min, IntKind.max, IntKind.signed, IntKind.bits] using h
  omega

set_option maxHeartbeats 8000000 in
set_option maxRecDepth 100000 in
theorem walk (a0 : Option Addr) (l0 : List UInt8) (c0 : Nat) (a1 : Option Addr) (l1 : List UInt8) (c1 : Nat) (n many : Int) (w : World) (hA : Bs w w.heap.size a0 l0) (hc0 : l0.length ≤ c0) (hl0 : l0.length ≤ 140737488351232) (hB : Bs w w.heap.size a1 l1) (hc1 : l1.length ≤ c1) (hl1 : l1.length ≤ 140737488351232) (hwf : (Lit.int .i64 n).wf = true) (_ : (Lit.int .i64 many).wf = true) :
    Calls Try.prog 7 #[.slice a0 l0.length c0, .slice a1 l1.length c1, .int .i64 n, .int .i64 many] w fun e w' => e = .returned (.bool true) ∧ Below w.heap.size w w' := by
  obtain ⟨hn1, hn2⟩ := wf_i64 hwf
  have HA := Lib.hid hA
  have HB := Lib.hid hB
  clear hA hB hwf
  go_enter Try.func7, Try.ntmps7
  go_wp2_with fail
  refine (StreamAliveW.alive_any w).mono ?_
  rintro e w1 ⟨rfl, b1⟩
  have X1 := Lib.hid b1
  clear b1
  by_cases h1 : many < 0
  · have t1 : decide (many < 0) = true := decide_eq_true h1
    go_wp2
    go_ret
    exact ⟨rfl, X1.out⟩
  · have t1 : decide (many < 0) = false := decide_eq_false h1
    by_cases h2 : many > 5
    · have t2 : decide (many > 5) = true := decide_eq_true h2
      go_wp2
      go_ret
      exact ⟨rfl, X1.out⟩
    · have t2 : decide (many > 5) = false := decide_eq_false h2
      obtain ⟨m, rfl⟩ : ∃ m : Nat, many = (m : Int) := ⟨many.toNat, by omega⟩
      have hm5 : m ≤ 5 := by omega
      obtain ⟨M, hM⟩ : ∃ M, 64 * m = M := ⟨_, rfl⟩
      have HM := Lib.hid hM
      have wM : IntKind.i64.wrap (64 * (m : Int)) = (M : Int) := by rw [IntWalk.i64_in _ (by omega)]; omega
      have hmk := makeN M (by omega) w1
      have rz := Row.madeN w1.heap.size M w1 (Nat.le_refl _) (by unfold maxLen; omega)
      have bz := (Below.refl w1.heap.size w1).alloc (Nat.le_refl _) (.cells (madeCells #[.int .u8 0] M) 5)
      obtain ⟨W1, hW1⟩ : ∃ W1, w1.alloc (.cells (madeCells #[.int .u8 0] M) 5) = W1 := ⟨_, rfl⟩
      rw [hW1] at hmk rz bz
      have X2 := Lib.hid (X1.out.trans (bz.mono X1.out.size))
      obtain ⟨AZ, cZ, eZ, sZ, _⟩ := rz.form2
      obtain ⟨rfl, -, -⟩ := Value.slice.inj eZ
      have h5 := smix_any a0 l0 c0 a1 l1 c1 n (some ⟨w1.heap.size, 0, none⟩) (List.replicate M 0) M W1 ((HA.out.below X2.out).more X2.out.size) hc0 ((HB.out.below X2.out).more X2.out.size) hc1 sZ (by simp) hl0 hl1 (by rw [List.length_replicate]; omega) hn1 hn2
      obtain ⟨xs, er, hx⟩ : ∃ bs er, mixM l0 l1 n (List.replicate M 0) = (bs, er) := ⟨_, _, rfl⟩
      rw [hx, List.length_replicate] at h5
      have H5 := Lib.hid h5
      unfold mixM at hx
      rw [List.length_replicate] at hx
      have HX := Lib.hid hx
      clear rz bz hW1 eZ sZ h5 hx hM h1 h2
      go_wp2_with fail
      refine H5.out.mono ?_
      clear H5
      rintro e w2 ⟨A9, d9, rfl, hd9, s9, b2⟩
      have X3 := Lib.hid (X2.out.trans (b2.mono X2.out.size))
      have S9 := Lib.hid s9
      simp only at hd9 S9 ⊢
      clear b2 s9 hmk
      by_cases h1 : l0.length ≠ 32 ∨ l1.length ≠ 12
      · have hx := HX.out
        rw [if_pos h1] at hx
        cases hx
        clear h1
        go_wp2
        go_ret
        exact ⟨rfl, X3.out⟩
      · by_cases h2 : n < 0 ∨ 4294967296 ≤ n ∨ 16384 < M ∨ 64 * (4294967296 - n) < (M : Int)
        · have hx := HX.out
          rw [if_neg h1, if_pos h2] at hx
          cases hx
          clear h1 h2
          go_wp2
          go_ret
          exact ⟨rfl, X3.out⟩
        · have hx := HX.out
          rw [if_neg h1, if_neg h2] at hx
          obtain ⟨hxs, rfl⟩ : mix l0 l1 n (List.replicate M 0) = xs ∧ er = 0 := by cases hx; exact ⟨rfl, rfl⟩
          have HXl := Lib.hid (show xs.length = M by rw [← hxs, mix_len, List.length_replicate])
          have HXz := Lib.hid (fun (k : Nat) (hk : k < m) => (show (xs.drop (64 * k)).take 64 = block l0 l1 (n + (k : Nat)) by rw [← hxs, ← HM.out]; exact mix_zeros l0 l1 n m k hk))
          rw [HXl.out] at hd9 ⊢
          have H1 := Lib.hid h1
          have hn0 : 0 ≤ n := by omega
          have hnm : n + (m : Int) ≤ 4294967296 := by have := HM.out; omega
          clear hx hxs HX h1 h2
          go_wp2
          go_loopw [38] (fun vk wr => ∃ k : Nat, k ≤ m ∧ vk = .int .i64 (k : Int) ∧ Below w2.heap.size w2 wr) (fun vk _ => m - (intOf vk).toNat)
          case atStart => exact ⟨0, by omega, rfl, Below.refl _ _⟩
          case round =>
            obtain ⟨k, hk, rfl, bx⟩ := hrel
            have BX := Lib.hid bx
            have XR := Lib.hid (X3.out.trans (bx.mono X3.out.size))
            clear bx
            by_cases hlt : k < m
            · have ct : decide ((k : Int) < (m : Int)) = true := decide_eq_true (by omega)
              have wnk : IntKind.i64.wrap (n + (k : Int)) = n + (k : Int) := IntWalk.i64_in _ (by omega)
              have hbl := sblock_any a0 l0 c0 a1 l1 c1 (n + (k : Int)) wr ((HA.out.below XR.out).more XR.out.size) hc0 ((HB.out.below XR.out).more XR.out.size) hc1 hl0 hl1 (by omega) (by omega)
              rw [show blockM l0 l1 (n + (k : Int)) = (block l0 l1 (n + (k : Int)), 0) by unfold blockM; rw [if_neg H1.out, if_neg (by omega)]] at hbl
              have HBl := Lib.hid hbl
              have hzk := HXz.out k hlt
              obtain ⟨Bk, hBk⟩ : ∃ Bk, block l0 l1 (n + (k : Int)) = Bk := ⟨_, rfl⟩
              rw [hBk] at HBl hzk
              have HZk := Lib.hid hzk
              clear hbl hzk hBk
              go_wp2_with fail
              refine HBl.out.mono ?_
              clear HBl
              rintro e w3 ⟨A12, d12, rfl, hd12, s12, b3⟩
              have BX3 := Lib.hid (BX.out.trans (b3.mono BX.out.size))
              have S12 := Lib.hid s12
              simp only at hd12 S12 ⊢
              clear b3 s12
              obtain ⟨p, hp⟩ : ∃ p, 64 * k = p := ⟨_, rfl⟩
              have hpM : p + 64 ≤ M := by have := HM.out; omega
              obtain ⟨ad, rfl, -, -⟩ := S9.out.at_ (k := 0) (by rw [HXl.out]; omega)
              have hcut := (S9.out.cut p d9 (by rw [HXl.out]; exact hd9)).take 64
              rw [if_neg (by omega), ← hp, HZk.out, hp] at hcut
              have HCut := Lib.hid hcut
              have wp : IntKind.i64.wrap (64 * (k : Int)) = (p : Int) := by rw [IntWalk.i64_in _ (by omega)]; omega
              obtain ⟨q, hq⟩ : ∃ q, p + 64 = q := ⟨_, rfl⟩
              have wp64 : IntKind.i64.wrap ((p : Int) + 64) = (q : Int) := by rw [IntWalk.i64_in _ (by omega)]; omega
              have hpq : p ≤ q := by omega
              have hqp : q - p = 64 := by omega
              have hBkl : Bk.length = 64 := by
                have h := congrArg List.length HZk.out
                rw [List.length_take, List.length_drop, HXl.out] at h
                omega
              have HBkl := Lib.hid hBkl
              have tM : ((M : Int) != (M : Int)) = false := by simp
              have ip : (q : Int) ≤ (d9 : Int) := by omega
              have hdp : ¬ (d9 = p) := by omega
              rw [hBkl] at hd12 ⊢
              have C1 : ∀ x : Ab w3, (convert 22 9 (.slice (some (ad.add p)) 64 (d9 - p))).run Try.prog x.val = .ok (.string ⟨Bk.toArray⟩) x.val := fun x => by
                have h := (HCut.out.below (BX3.out.trans ((Cl.below ⟨x, rfl⟩ : Below w3.heap.size w3 x.val).mono BX3.out.size))).conv (d9 - p)
                rw [HBkl.out] at h
                exact h
              have C2 : ∀ x : Ab w3, (convert 22 9 (.slice A12 64 d12)).run Try.prog x.val = .ok (.string ⟨Bk.toArray⟩) x.val := fun x => by
                have h := (S12.out.below (Cl.below ⟨x, rfl⟩ : Below w3.heap.size w3 x.val)).conv d12
                rw [HBkl.out] at h
                exact h
              have hab := ab w3
              clear hcut hp hBkl hq
              go_upto_region 12 with (fail)
              refine wp_region_tree (.read 0 (.read 1 (.read 2 (.read 3 (.read 4 (.read 5 (.read 6 (.read 7 (.read 8 (.read 9 (.read 10 (.read 11 (.read 12 (.read 13 (.read 14 (.read 15 (.read 16 (.read 17 (.read 18 (.read 19 (.read 20 (.read 21 .done)))))))))))))))))))))) (fun W => ∃ x : Ab w3, W = x.val) (by kernel_rfl) (by kernel_rfl) (by decide) (fun _ _ d _ _ h => by cases d <;> exact h) (Cl.of (Below.refl _ _).drew) ?_
              iterate 16 (refine tree_read rfl (fun K hK => ?_); go_simp; refine hK _ ?_; clear hK K)
              refine tree_read rfl (fun K hK => ?_)
              go_simp
              refine hK _ ?_
              clear hK K
              iterate 5 (refine tree_read rfl (fun K hK => ?_); go_simp; refine hK _ ?_; clear hK K)
              refine tree_done ?_
              have BF := Lib.hid (BX3.out.drew)
              clear C1 C2 hab
              go_wp2
              go_roundw
              case rel => exact ⟨k + 1, by omega, by go_num, BF.out⟩
              case measure => simp [intOf]; omega
            · obtain rfl : k = m := by omega
              have ct : decide ((k : Int) < (k : Int)) = false := decide_eq_false (by omega)
              go_wp2
              go_ret
              exact ⟨rfl, XR.out⟩
end Go.Proofs.Ythofghfbnlieeaa.StreamBlocksL
