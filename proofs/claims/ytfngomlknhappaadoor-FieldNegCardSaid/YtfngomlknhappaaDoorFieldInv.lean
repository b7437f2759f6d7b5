/-
  field.inverse, even, root: what they hand back. Conditions: in each statement.
-/
import Derived.Test.YtfngomlknhappaaDoorFieldPow
import Derived.Test.YtfngomlknhappaaDoorFieldTab
import Derived.Test.YtfngomlknhappaaDoorArrT
namespace Go.Proofs.YtfngomlknhappaaDoor.FieldWW
open Go.RowKit BytesW ArrW ArrG ArrL ArrT FieldM NumA NumF FieldN Grow

theorem inv_eq (x : F) : fp (fp x (2 ^ 250 - 1)) (2 ^ 5) * (fp x (2 ^ 3) * fp x (2 ^ 2 - 1)) = inv x := by
  rw [← fp_fp, ← fp_add, ← fp_add]
  unfold inv
  congr 1
theorem root_eq (x : F) : fp (fp x (2 ^ 251 - 1)) (2 ^ 1) = fp x E8 := by
  rw [← fp_fp]
  congr 1
theorem eqw (x y : F) (w : World) : (Op.equalIn 10000 46 (.agg (nc (wd x.val 4)).toArray) (.agg (nc (wd y.val 4)).toArray)).run Tryd.prog w = .ok (decide (x = y)) w := by
  have cell : ∀ (z : F) (i : Nat), i < 4 → (nc (wd z.val 4)).toArray[i]? = some (.int .u64 (((wd z.val 4).getD i 0 : Nat) : Int)) := by
    intro z i hi
    rw [List.getElem?_toArray]
    exact nc_getD _ i (by rw [wd_len]; exact hi)
  have h := run_eqb_arr w 9998 46 44 4 (nc (wd x.val 4)).toArray (nc (wd y.val 4)).toArray .u64 (fun i => (((wd x.val 4).getD i 0 : Nat) : Int)) (fun i => (((wd y.val 4).getD i 0 : Nat) : Int)) wnum_u Tryd.underlying44 (by kernel_rfl) (fun i hi => ⟨cell x i hi, cell y i hi⟩)
  rw [show ((List.range' 0 4).all fun i => (((wd x.val 4).getD i 0 : Nat) : Int) == (((wd y.val 4).getD i 0 : Nat) : Int)) = decide (x = y) from ?_] at h
  · exact h
  · by_cases hxy : x = y
    · subst hxy
      simp
    · rw [decide_eq_false hxy, Bool.eq_false_iff]
      intro ha
      apply hxy
      rw [List.all_eq_true] at ha
      refine of_val (wd_inj (lt_B4 x) (lt_B4 y) (wd_ext _ _ 4 (wd_len _ _) fun k hk => ?_))
      have := ha k (by simp [List.mem_range']; omega)
      rw [← wd_at y.val 4 k hk]
      simp only [beq_iff_eq] at this
      omega

set_option maxHeartbeats 1000000 in
set_option maxRecDepth 100000 in
theorem inverse_any (x : F) (w : World) :
    Calls Tryd.prog 44 #[.agg (nc (wd x.val 4)).toArray] w fun e w' => e = .returned (.agg (nc (wd (inv x).val 4)).toArray) ∧ Below w.heap.size w w' := by
  have hi := inv_eq x
  have HA := Lib.hid (fun w => squares_any x 3 (by decide) w)
  have HB := Lib.hid (fun w => ones_any 2 (by decide) (by decide) x w)
  have HC := Lib.hid (fun w => ones_any 250 (by decide) (by decide) x w)
  obtain ⟨a, ha⟩ : ∃ a, fp x (2 ^ 3) = a := ⟨_, rfl⟩
  obtain ⟨b, hb⟩ : ∃ a, fp x (2 ^ 2 - 1) = a := ⟨_, rfl⟩
  obtain ⟨c, hc⟩ : ∃ a, fp x (2 ^ 250 - 1) = a := ⟨_, rfl⟩
  rw [ha] at hi HA
  rw [hb] at hi HB
  rw [hc] at hi HC
  have HD := Lib.hid (fun w => squares_any c 5 (by decide) w)
  obtain ⟨d, hd⟩ : ∃ a, fp c (2 ^ 5) = a := ⟨_, rfl⟩
  rw [hd] at hi HD
  have HE := Lib.hid (fun w => times_any a b w)
  obtain ⟨e', he⟩ : ∃ z, a * b = z := ⟨_, rfl⟩
  rw [he] at hi HE
  have HF := Lib.hid (fun w => times_any d e' w)
  obtain ⟨R, hR⟩ : ∃ R, inv x = R := ⟨_, rfl⟩
  rw [hi, hR] at HF
  rw [hR]
  clear hi ha hb hc hd he hR
  go_enter Tryd.func44, Tryd.ntmps44
  go_upto_region 1 with (fail)
  generalize hW : World.alloc _ _ = W
  obtain ⟨H0, H1, hbw, hsz⟩ := start2 hW
  clear hW
  have A0 : Hid (Arr W (w.heap.size) 46 (nc (wd x.val 4))) := Lib.hid H0
  have A1 : Hid (Arr W (w.heap.size + 1) 46 (nc (wd 0 4))) := Lib.hid H1
  obtain ⟨g, hg⟩ : ∃ g, w.heap.size = g := ⟨_, rfl⟩
  have HBw : Hid (Below g w W) := Lib.hid (by rw [← hg]; exact hbw)
  have HSZ : Hid (g + 2 ≤ W.heap.size) := Lib.hid (by rw [← hg]; omega)
  have HG := Lib.hid hg
  rw [hg] at A0 A1
  simp only [hg]
  clear H0 H1 hbw hsz hg
  let C : Nat → Value → World → Prop := fun i v V0 => match i with
    | 0 => v = .agg (nc (wd x.val 4)).toArray
    | 1 => v = .agg (nc (wd a.val 4)).toArray
    | 2 => v = .agg (nc (wd x.val 4)).toArray
    | 3 => v = .agg (nc (wd b.val 4)).toArray
    | 4 => v = .agg (nc (wd e'.val 4)).toArray
    | _ => AL W.heap.size v V0
  refine wp_region_grow [0, 1, 2, 3, 4, 5] (fun i => [4, 5, 6, 7, 8, 3].getD i 0) C (.step 6 .done) (fun V0 => Below W.heap.size W V0) (by kernel_rfl) (by kernel_rfl) (fun _ _ d _ _ h => by cases d <;> exact h) ((Below.refl _ _).drew) ?_ ?_ ?_
  · intro i hi v V V' h hb
    simp only [List.mem_cons, List.not_mem_nil, or_false] at hi
    rcases hi with rfl | rfl | rfl | rfl | rfl | rfl <;> first | exact h | exact AL.grow h hb
  · intro i hi
    simp only [List.mem_cons, List.not_mem_nil, or_false] at hi
    rcases hi with rfl | rfl | rfl | rfl | rfl | rfl
    · rintro o ⟨⟩ ac V hS hoff hdep K hK
      have q10 : ac.tmps[1]? = some (.pointer (some ⟨g, 0, none⟩)) := (hoff 1 (by decide)).trans rfl
      clear hoff hdep
      refine Arr.loadO (A0.out.below hS A0.out.lt) 46 (.tmp 1) rfl (eval_tmp q10) wnum_u rfl wnum_size (wd4 _) ?_
      exact hK _ _ (Below.refl _ _) hS rfl
    · rintro o ⟨⟩ ac V hS hoff hdep K hK
      obtain ⟨v0, h0, c0⟩ := hdep 0 (by decide) (by rfl)
      obtain rfl : v0 = .agg (nc (wd x.val 4)).toArray := c0
      have q0 : ac.tmps[4]? = some (.agg (nc (wd x.val 4)).toArray) := h0
      clear h0
      clear hoff hdep
      replace hK := Lib.hid hK
      go_simp
      refine (HA.out V).mono ?_
      rintro e V' ⟨rfl, hb⟩
      exact hK.out _ _ hb (Below.trans hS (hb.mono (Below.size hS))) rfl
    · rintro o ⟨⟩ ac V hS hoff hdep K hK
      have q10 : ac.tmps[1]? = some (.pointer (some ⟨g, 0, none⟩)) := (hoff 1 (by decide)).trans rfl
      clear hoff hdep
      refine Arr.loadO (A0.out.below hS A0.out.lt) 46 (.tmp 1) rfl (eval_tmp q10) wnum_u rfl wnum_size (wd4 _) ?_
      exact hK _ _ (Below.refl _ _) hS rfl
    · rintro o ⟨⟩ ac V hS hoff hdep K hK
      obtain ⟨v2, h2, c2⟩ := hdep 2 (by decide) (by rfl)
      obtain rfl : v2 = .agg (nc (wd x.val 4)).toArray := c2
      have q2 : ac.tmps[6]? = some (.agg (nc (wd x.val 4)).toArray) := h2
      clear h2
      clear hoff hdep
      replace hK := Lib.hid hK
      go_simp
      refine (HB.out V).mono ?_
      rintro e V' ⟨rfl, hb⟩
      exact hK.out _ _ hb (Below.trans hS (hb.mono (Below.size hS))) rfl
    · rintro o ⟨⟩ ac V hS hoff hdep K hK
      obtain ⟨v1, h1, c1⟩ := hdep 1 (by decide) (by rfl)
      obtain rfl : v1 = .agg (nc (wd a.val 4)).toArray := c1
      have q1 : ac.tmps[5]? = some (.agg (nc (wd a.val 4)).toArray) := h1
      clear h1
      obtain ⟨v3, h3, c3⟩ := hdep 3 (by decide) (by rfl)
      obtain rfl : v3 = .agg (nc (wd b.val 4)).toArray := c3
      have q3 : ac.tmps[7]? = some (.agg (nc (wd b.val 4)).toArray) := h3
      clear h3
      clear hoff hdep
      replace hK := Lib.hid hK
      go_simp
      refine (HE.out V).mono ?_
      rintro e V' ⟨rfl, hb⟩
      exact hK.out _ _ hb (Below.trans hS (hb.mono (Below.size hS))) rfl
    · rintro o ⟨⟩ ac V hS hoff hdep K hK
      clear hoff hdep
      replace hK := Lib.hid hK
      go_simp
      have hb := (Below.refl V.heap.size V).alloc (Nat.le_refl _) (.cells #[.int .u64 0, .int .u64 0, .int .u64 0, .int .u64 0] 46)
      exact hK.out _ _ hb (Below.trans hS (hb.mono (Below.size hS))) ⟨V.heap.size, rfl, Below.size hS, Arr.new V _ _⟩
  · intro f V hS hf
    obtain ⟨p3, ea, hgz, az⟩ : AL W.heap.size (f 5) V := hf 5 (by decide)
    have er : f 4 = .agg (nc (wd e'.val 4)).toArray := hf 4 (by decide)
    unfold puts
    simp only [List.map_cons, List.map_nil, List.foldl_cons, List.foldl_nil, Act.put]
    rw [ea, er]
    clear hf ea er
    generalize f 0 = uf0
    generalize f 1 = uf1
    generalize f 2 = uf2
    generalize f 3 = uf3
    clear C f
    go_simp
    refine tree_step rfl hS (fun K hK => ?_)
    rw [if_pos (show Region.wanted _ _ = true from rfl)]
    refine Arr.storeO az 46 (.tmp 3) (.tmp 8) rfl rfl (nc (wd e'.val 4)) rfl wnum_size (by rfl) (wd4 _) (nc_one _) ?_
    have an := az.row (nc (wd e'.val 4))
    have bn := below_row hS hgz (nc (wd e'.val 4)).toArray
    generalize World.setRow _ _ _ = w1 at *
    refine hK _ _ ⟨bn, ?_⟩
    clear hK K az hS
    refine tree_done ?_
    replace A0 := Lib.hid (A0.out.below bn A0.out.lt)
    replace A1 := Lib.hid (A1.out.below bn A1.out.lt)
    have HB1 := Lib.hid (HBw.out.trans (bn.mono (by have := HSZ.out; omega)))
    have HZ1 := Lib.hid (Nat.le_trans HSZ.out bn.size)
    have A3 := Lib.hid an
    clear an bn hgz HBw HSZ HA HB HE
    go_upto_region 2 with (fail)
    have hab := ab w1
    have QC := Lib.hid (show ∀ V, Below w1.heap.size w1 V → Calls Tryd.prog 59 #[.agg (nc (wd x.val 4)).toArray, .int .i64 250] V fun e w' => e = .returned (.agg (nc (wd c.val 4)).toArray) ∧ Below w1.heap.size w1 w' from fun V hV =>
      (HC.out V).mono fun e w' ⟨he, hb⟩ => ⟨he, hV.trans (hb.mono hV.size)⟩)
    have QD := Lib.hid (show ∀ V, Below w1.heap.size w1 V → Calls Tryd.prog 58 #[.agg (nc (wd c.val 4)).toArray, .int .i64 5] V fun e w' => e = .returned (.agg (nc (wd d.val 4)).toArray) ∧ Below w1.heap.size w1 w' from fun V hV =>
      (HD.out V).mono fun e w' ⟨he, hb⟩ => ⟨he, hV.trans (hb.mono hV.size)⟩)
    have QF := Lib.hid (show ∀ V, Below w1.heap.size w1 V → Calls Tryd.prog 31 #[.agg (nc (wd d.val 4)).toArray, .agg (nc (wd e'.val 4)).toArray] V fun e w' => e = .returned (.agg (nc (wd R.val 4)).toArray) ∧ Below w1.heap.size w1 w' from fun V hV =>
      (HF.out V).mono fun e w' ⟨he, hb⟩ => ⟨he, hV.trans (hb.mono hV.size)⟩)
    clear HC HD HF
    refine Phase.wp_region_phases [([], [0, 1, 2, 3, 4], some 5)] (fun V => ∃ x : Ab w1, V = x.val) (by kernel_rfl) (by kernel_rfl) (fun _ _ d _ _ h => by cases d <;> exact h) (Cl.of (Below.refl _ _).drew) ?_
    refine Phase.g_alone rfl ?_
    refine Phase.p_nil ?_
    refine Phase.q_step rfl (fun K hK => want rfl ?_)
    refine Arr.loadQ (fun V (h : ∃ x : Ab w1, V = x.val) => A0.out.below (Cl.below h) A0.out.lt) 46 (.tmp 1) rfl rfl wnum_u rfl wnum_size (wd4 _) ?_
    refine hK _ ?_
    clear hK K
    refine Phase.q_step rfl (fun K hK => ?_); go_simp; apply Exists.intro; refine ⟨fun x => ?_, hK _ ?_⟩; (exact call_cl QC.out x); clear hK K
    refine Phase.q_step rfl (fun K hK => ?_); go_simp; apply Exists.intro; refine ⟨fun x => ?_, hK _ ?_⟩; (exact call_cl QD.out x); clear hK K
    refine Phase.q_step rfl (fun K hK => want rfl ?_)
    refine Arr.loadQ (fun V (h : ∃ x : Ab w1, V = x.val) => A3.out.below (Cl.below h) A3.out.lt) 46 (.tmp 3) rfl rfl wnum_u rfl wnum_size (wd4 _) ?_
    refine hK _ ?_
    clear hK K
    refine Phase.q_step rfl (fun K hK => ?_); go_simp; apply Exists.intro; refine ⟨fun x => ?_, hK _ ?_⟩; (exact call_cl QF.out x); clear hK K
    refine Phase.q_nil ?_
    rintro V hV K hK
    have hBV := Cl.below hV
    have hAV := A1.out.below hBV A1.out.lt
    refine want rfl ?_
    refine Arr.storeO hAV 46 (.tmp 2) (.tmp 13) rfl rfl (nc (wd R.val 4)) rfl wnum_size (wd4 _) (wd4 _) (nc_one _) ?_
    have AF := Lib.hid (hAV.row (nc (wd R.val 4)))
    have HBF := Lib.hid (below_row (HB1.out.trans (hBV.mono (by have := HZ1.out; omega))) (show g ≤ g + 1 by omega) (nc (wd R.val 4)).toArray)
    generalize World.setRow _ _ _ = w5 at *
    refine hK _ _ ⟨fun X => X = w5, rfl, ?_⟩
    clear hK K
    refine Phase.g_nil ?_
    intro wz hz
    rw [show wz = w5 from hz]
    clear hz hBV hAV hV hab A0 A1 A3 QC QD QF
    go_wp2
    refine bodyPost_ret (v := .agg (nc (wd R.val 4)).toArray) (by exact AF.out.ret rfl _ rfl wnum_u rfl wnum_size (wd4 _)) rfl ⟨rfl, by rw [HG.out]; exact HBF.out⟩

set_option maxHeartbeats 1000000 in
set_option maxRecDepth 100000 in
theorem even_any (x : F) (w : World) (hT : TabP w) :
    Calls Tryd.prog 46 #[.agg (nc (wd x.val 4)).toArray] w fun e w' => e = .returned (.agg (nc (wd (FieldM.even x).val 4)).toArray) ∧ Below w.heap.size w w' := by
  have HT := Lib.hid hT
  have K0 := nc_getD (wd x.val 4) 0 (by rw [wd_len]; decide)
  have l0 := wd_lt x.val 4 0
  have hp0 : (wd x.val 4).getD 0 0 % 2 = x.val % 2 := by
    rw [wd_at _ 4 0 (by decide), Nat.pow_zero, Nat.div_one]
    omega
  obtain ⟨y, hy⟩ : ∃ y, (wd x.val 4).getD 0 0 = y := ⟨_, rfl⟩
  rw [hy] at K0 l0 hp0
  have f1 := Bits.and_u64 y 1 l0 (by decide)
  rw [Nat.and_one_is_mod, hp0] at f1
  have f2 : bits .and .u64 (y : Int) 1 = ((x.val % 2 : Nat) : Int) := f1
  have HK := Lib.hid K0
  have HX := Lib.hid (Nat.le_of_lt x.isLt)
  obtain ⟨R, hR⟩ : ∃ R, FieldM.even x = R := ⟨_, rfl⟩
  have HP : Hid ((x.val % 2 = 1 ∧ P - x.val = R.val) ∨ (x.val % 2 = 0 ∧ x = R)) := Lib.hid (by
    rw [← hR]
    unfold FieldM.even
    by_cases h : x.val % 2 = 1
    · rw [if_pos h]
      refine .inl ⟨h, (neg_val (fun e => ?_)).symm⟩
      rw [e] at h
      exact absurd h (by decide)
    · rw [if_neg h]
      exact .inr ⟨by omega, rfl⟩)
  rw [hR]
  clear hR hT K0 l0 hp0 hy f1
  go_enter Tryd.func46, Tryd.ntmps46
  go_upto_region 1 with (fail)
  generalize hW : World.alloc _ _ = W
  obtain ⟨H0, H1, hbw, hsz⟩ := start2 hW
  clear hW
  have A0 : Hid (Arr W (w.heap.size) 46 (nc (wd x.val 4))) := Lib.hid H0
  have A1 : Hid (Arr W (w.heap.size + 1) 46 (nc (wd 0 4))) := Lib.hid H1
  replace HT : Hid (TabP W) := Lib.hid (Tab.below HT.out hbw)
  obtain ⟨g, hg⟩ : ∃ g, w.heap.size = g := ⟨_, rfl⟩
  have HBw : Hid (Below g w W) := Lib.hid (by rw [← hg]; exact hbw)
  have HSZ : Hid (g + 2 ≤ W.heap.size) := Lib.hid (by rw [← hg]; omega)
  have HG := Lib.hid hg
  rw [hg] at A0 A1
  simp only [hg]
  clear H0 H1 hbw hsz hg
  have c0 := (A0.out.cell 0).trans HK.out
  rcases HP.out with ⟨h1, h2⟩ | ⟨h1, h2⟩
  · rw [h1] at f2
    have HN := Lib.hid (neg_any x.val HX.out W HT.out)
    rw [h2] at HN
    clear h1 h2 HP HX
    go_wp2_with (show wpList _ _ _ (⟨_, Op.load 46 (.tmp 1), _, _, _, _⟩ :: _) _ _; refine Arr.loadL A0.out rfl 46 (.tmp 1) rfl rfl wnum_u rfl wnum_size (wd4 _) ?_)
    refine HN.out.mono ?_
    clear HN
    rintro e w1 ⟨rfl, b1⟩
    replace A1 := Lib.hid (A1.out.below b1 A1.out.lt)
    have HB1 := Lib.hid (HBw.out.trans (b1.mono (by have := HSZ.out; omega)))
    have AF := Lib.hid (A1.out.row (nc (wd R.val 4)))
    have HBF := Lib.hid (below_row HB1.out (show g ≤ g + 1 by omega) (nc (wd R.val 4)).toArray)
    clear b1 c0 f2
    go_wp2_with (show wpList _ _ _ (⟨_, Op.store _ (.tmp 2) _, _, _, _, _⟩ :: _) _ _; refine Arr.storeL A1.out rfl 46 (.tmp 2) (.tmp 8) rfl rfl (nc (wd R.val 4)) rfl wnum_size (by rfl) (wd4 _) (nc_one _) ?_)
    refine bodyPost_ret (v := .agg (nc (wd R.val 4)).toArray) (by exact AF.out.ret rfl _ rfl wnum_u rfl wnum_size (wd4 _)) rfl ⟨rfl, by rw [HG.out]; exact HBF.out⟩
  · rw [h1] at f2
    obtain rfl := h2
    have AF := Lib.hid (A1.out.row (nc (wd x.val 4)))
    have HBF := Lib.hid (below_row HBw.out (show g ≤ g + 1 by omega) (nc (wd x.val 4)).toArray)
    clear h1 HP HX
    go_wp2_with (first | (show wpList _ _ _ (⟨_, Op.load 46 (.tmp 1), _, _, _, _⟩ :: _) _ _; refine Arr.loadL A0.out rfl 46 (.tmp 1) rfl rfl wnum_u rfl wnum_size (wd4 _) ?_) | (show wpList _ _ _ (⟨_, Op.store _ (.tmp 2) _, _, _, _, _⟩ :: _) _ _; refine Arr.storeL A1.out rfl 46 (.tmp 2) (.tmp 9) rfl rfl (nc (wd x.val 4)) rfl wnum_size (by rfl) (wd4 _) (nc_one _) ?_))
    refine bodyPost_ret (v := .agg (nc (wd x.val 4)).toArray) (by exact AF.out.ret rfl _ rfl wnum_u rfl wnum_size (wd4 _)) rfl ⟨rfl, by rw [HG.out]; exact HBF.out⟩

/-- The root that is tried last. -/
def rr (x : F) : F := if fp x E8 * fp x E8 = x then fp x E8 else fp x E8 * I4
theorem rootF_rr (x : F) : rootF x = if rr x * rr x = x then some (FieldM.even (rr x)) else none := by
  unfold rootF rr
  split <;> rfl

set_option maxHeartbeats 1000000 in
set_option maxRecDepth 100000 in
theorem root_any (x : F) (w : World) (hT : TabT w) :
    Calls Tryd.prog 45 #[.agg (nc (wd x.val 4)).toArray] w fun e w' => e = .returned (.tuple #[.agg (nc (wd (rr x).val 4)).toArray, .bool (decide (rr x * rr x = x))]) ∧ Below w.heap.size w w' := by
  have HT := Lib.hid hT
  have hi := root_eq x
  have HA := Lib.hid (fun w => ones_any 251 (by decide) (by decide) x w)
  obtain ⟨a, ha⟩ : ∃ a, fp x (2 ^ 251 - 1) = a := ⟨_, rfl⟩
  rw [ha] at hi HA
  have HB := Lib.hid (fun w => squares_any a 1 (by decide) w)
  rw [hi] at HB
  obtain ⟨r, hr⟩ : ∃ r, fp x E8 = r := ⟨_, rfl⟩
  obtain ⟨R, hR⟩ : ∃ r, rr x = r := ⟨_, rfl⟩
  have HRR := Lib.hid hR
  unfold rr at hR
  rw [hr] at hR HB
  have HE := Lib.hid (fun w => times_any r r w)
  have HI := Lib.hid (fun w => times_any r I4 w)
  have HS := Lib.hid (fun w => times_any R R w)
  have hq1 := fun w => eqw (r * r) x w
  have hq2 := fun w => eqw (R * R) x w
  obtain ⟨q, hq⟩ : ∃ q, r * r = q := ⟨_, rfl⟩
  obtain ⟨s, hs⟩ : ∃ q, R * R = q := ⟨_, rfl⟩
  obtain ⟨i, hii⟩ : ∃ q, r * I4 = q := ⟨_, rfl⟩
  rw [hq] at HE hq1 hR
  rw [hs] at HS hq2
  rw [hii] at HI hR
  have HQ1 := Lib.hid hq1
  have HQ2 := Lib.hid hq2
  rw [HRR.out, hs]
  obtain ⟨ok, hok⟩ : ∃ b, decide (s = x) = b := ⟨_, rfl⟩
  rw [hok] at HQ2 ⊢
  have HRi := Lib.hid hR
  clear hi ha hr hR hq1 hq2 hq hs hii hT hok
  go_enter Tryd.func45, Tryd.ntmps45
  go_upto_region 1 with (fail)
  generalize hW : World.alloc _ _ = W
  obtain ⟨H0, H1, hbw, hsz⟩ := start2 hW
  clear hW
  have A0 : Hid (Arr W (w.heap.size) 46 (nc (wd x.val 4))) := Lib.hid H0
  have A1 : Hid (Arr W (w.heap.size + 1) 46 (nc (wd 0 4))) := Lib.hid H1
  replace HT : Hid (TabT W) := Lib.hid (Tab.below HT.out hbw)
  obtain ⟨g, hg⟩ : ∃ g, w.heap.size = g := ⟨_, rfl⟩
  have HBw : Hid (Below g w W) := Lib.hid (by rw [← hg]; exact hbw)
  have HSZ : Hid (g + 2 ≤ W.heap.size) := Lib.hid (by rw [← hg]; omega)
  have HG := Lib.hid hg
  rw [hg] at A0 A1
  simp only [hg]
  clear H0 H1 hbw hsz hg
  go_wp2_with (show wpList _ _ _ (⟨_, Op.load _ (.tmp 1), _, _, _, _⟩ :: _) _ _; refine Arr.loadL A0.out rfl 46 (.tmp 1) rfl rfl wnum_u rfl wnum_size (wd4 _) ?_)
  refine (HA.out W).mono ?_
  clear HA
  rintro e w1 ⟨rfl, b1⟩
  replace A0 := Lib.hid (A0.out.below b1 A0.out.lt)
  replace A1 := Lib.hid (A1.out.below b1 A1.out.lt)
  replace HT : Hid (TabT w1) := Lib.hid (Tab.below HT.out b1)
  have HB1 := Lib.hid (HBw.out.trans (b1.mono (by have := HSZ.out; omega)))
  have HZ1 := Lib.hid (Nat.le_trans HSZ.out b1.size)
  clear b1 HBw HSZ
  go_wp2_with fail
  refine (HB.out w1).mono ?_
  clear HB
  rintro e w2 ⟨rfl, b2⟩
  replace A0 := Lib.hid (A0.out.below b2 A0.out.lt)
  replace A1 := Lib.hid (A1.out.below b2 A1.out.lt)
  replace HT : Hid (TabT w2) := Lib.hid (Tab.below HT.out b2)
  have HB2 := Lib.hid (HB1.out.trans (b2.mono (by have := HZ1.out; omega)))
  have HZ2 := Lib.hid (Nat.le_trans HZ1.out b2.size)
  clear b2 HB1 HZ1
  go_upto_region 2 with (show wpList _ _ _ (⟨_, Op.store _ (.tmp 4) _, _, _, _, _⟩ :: _) _ _; refine Arr.storeL (Arr.new w2 _ _) rfl 46 (.tmp 4) (.tmp 7) rfl rfl (nc (wd r.val 4)) rfl wnum_size (by rfl) (wd4 _) (nc_one _) ?_)
  generalize hw3 : World.setRow _ _ _ = w3
  obtain ⟨a3, b3, z3⟩ := filled hw3
  obtain ⟨p4, hp⟩ : ∃ p, w2.heap.size = p := ⟨_, rfl⟩
  replace A0 := Lib.hid (A0.out.below b3 A0.out.lt)
  replace A1 := Lib.hid (A1.out.below b3 A1.out.lt)
  replace HT : Hid (TabT w3) := Lib.hid (Tab.below HT.out b3)
  have HB3 := Lib.hid (HB2.out.trans (b3.mono (by have := HZ2.out; omega)))
  have HZ3 := Lib.hid (Nat.le_trans HZ2.out b3.size)
  have HP4 := Lib.hid (show g + 2 ≤ p4 by rw [← hp]; exact HZ2.out)
  rw [hp] at a3 ⊢
  have A4 := Lib.hid a3
  clear a3 b3 z3 hw3 hp HB2 HZ2
  have hab := ab w3
  have QE := Lib.hid (show ∀ V, Below w3.heap.size w3 V → Calls Tryd.prog 31 #[.agg (nc (wd r.val 4)).toArray, .agg (nc (wd r.val 4)).toArray] V fun e w' => e = .returned (.agg (nc (wd q.val 4)).toArray) ∧ Below w3.heap.size w3 w' from fun V hV =>
    (HE.out V).mono fun e w' ⟨he, hb⟩ => ⟨he, hV.trans (hb.mono hV.size)⟩)
  have hqx := fun y : Ab w3 => HQ1.out y.val
  clear HE HQ1
  refine Phase.wp_region_phases [([], [0, 1, 2, 3, 4], none)] (fun V => ∃ x : Ab w3, V = x.val) (by kernel_rfl) (by kernel_rfl) (fun _ _ d _ _ h => by cases d <;> exact h) (Cl.of (Below.refl _ _).drew) ?_
  refine Phase.g_quiet ?_
  refine Phase.p_nil ?_
  refine Phase.q_step rfl (fun K hK => want rfl ?_)
  refine Arr.loadQ (fun V (h : ∃ x : Ab w3, V = x.val) => A4.out.below (Cl.below h) A4.out.lt) 46 (.tmp 4) rfl rfl wnum_u rfl wnum_size (wd4 _) ?_
  refine hK _ ?_
  clear hK K
  refine Phase.q_step rfl (fun K hK => want rfl ?_)
  refine Arr.loadQ (fun V (h : ∃ x : Ab w3, V = x.val) => A4.out.below (Cl.below h) A4.out.lt) 46 (.tmp 4) rfl rfl wnum_u rfl wnum_size (wd4 _) ?_
  refine hK _ ?_
  clear hK K
  refine Phase.q_step rfl (fun K hK => ?_); go_simp; apply Exists.intro; refine ⟨fun x => ?_, hK _ ?_⟩; (exact call_cl QE.out x); clear hK K
  refine Phase.q_step rfl (fun K hK => want rfl ?_)
  refine Arr.loadQ (fun V (h : ∃ x : Ab w3, V = x.val) => A0.out.below (Cl.below h) A0.out.lt) 46 (.tmp 1) rfl rfl wnum_u rfl wnum_size (wd4 _) ?_
  refine hK _ ?_
  clear hK K
  refine Phase.q_step rfl (fun K hK => ?_); go_simp; refine hK _ ?_; clear hK K
  refine Phase.q_nil ?_
  refine Phase.g_nil ?_
  intro w4 hV
  have b4 := Cl.below hV
  replace A0 := Lib.hid (A0.out.below b4 A0.out.lt)
  replace A1 := Lib.hid (A1.out.below b4 A1.out.lt)
  replace A4 := Lib.hid (A4.out.below b4 A4.out.lt)
  replace HT : Hid (TabT w4) := Lib.hid (Tab.below HT.out b4)
  have HB4 := Lib.hid (HB3.out.trans (b4.mono (by have := HZ3.out; omega)))
  have HZ4 := Lib.hid (Nat.le_trans HZ3.out b4.size)
  clear b4 hV hab hqx QE HB3 HZ3
  by_cases hqe : q = x
  · have hdq : (!decide (q = x)) = false := by rw [decide_eq_true hqe]; rfl
    have hRi := HRi.out
    rw [if_pos hqe] at hRi
    obtain rfl := hRi.symm
    rw [hdq]
    have HBC := HB4
    have HZC := HZ4
    clear hdq hqe HRi HB4 HZ4
    go_upto_region 4 with (fail)
    let S : World → Prop := fun V => Arr V g 46 (nc (wd x.val 4)) ∧ Arr V p4 46 (nc (wd R.val 4))
    have s5 : S w4.drew := ⟨A0.out.drew, A4.out.drew⟩
    refine wp_region_tree (.read 0 (.read 1 (.read 2 (.read 4 (.step 3 (.read 5 (.step 6 (.read 7 .done)))))))) S (by kernel_rfl) (by kernel_rfl) (by decide) (fun _ _ d _ _ h => by cases d <;> exact h) s5 ?_
    refine tree_read rfl (fun K hK => ?_)
    refine loadT (by rfl) (fun V (h : S V) => h.2) 46 (.tmp 4) rfl rfl wnum_u rfl wnum_size (wd4 _) ?_
    refine hK _ ?_; clear hK K
    refine tree_read rfl (fun K hK => ?_)
    refine loadT (by rfl) (fun V (h : S V) => h.2) 46 (.tmp 4) rfl rfl wnum_u rfl wnum_size (wd4 _) ?_
    refine hK _ ?_; clear hK K
    refine tree_read rfl (fun K hK => ?_)
    refine loadT (by rfl) (fun V (h : S V) => h.2) 46 (.tmp 4) rfl rfl wnum_u rfl wnum_size (wd4 _) ?_
    refine hK _ ?_; clear hK K
    refine tree_read rfl (fun K hK => ?_)
    refine loadT (by rfl) (fun V (h : S V) => h.1) 46 (.tmp 1) rfl rfl wnum_u rfl wnum_size (wd4 _) ?_
    refine hK _ ?_; clear hK K
    have CS := Lib.hid (HS.out w4.drew)
    refine tree_step rfl s5 (fun K hK => ?_)
    clear s5
    go_simp
    refine CS.out.mono ?_
    clear CS
    rintro e w7 ⟨rfl, b7⟩
    replace b7 : Below w4.heap.size w4 w7 := ((Below.refl w4.heap.size w4).drew).trans (show Below w4.heap.size w4.drew w7 from b7)
    replace A0 := Lib.hid (A0.out.below b7 A0.out.lt)
    replace A1 := Lib.hid (A1.out.below b7 A1.out.lt)
    replace A4 := Lib.hid (A4.out.below b7 A4.out.lt)
    have HB7 := Lib.hid (HBC.out.trans (b7.mono (by have := HZC.out; omega)))
    clear b7
    have s7 : S w7 := ⟨A0.out, A4.out⟩
    refine hK _ _ ⟨s7, ?_⟩
    clear hK K
    refine tree_read rfl (fun K hK => ?_)
    rw [if_pos (show Region.wanted _ _ = true from rfl)]
    refine ⟨.bool ok, fun V _ => ?_, hK _ ?_⟩
    · have hq := HQ2.out V
      clear hK K
      go_simp
    clear hK K
    refine tree_step rfl s7 (fun K hK => ?_)
    rw [if_pos (show Region.wanted _ _ = true from rfl)]
    refine Arr.storeO A1.out 46 (.tmp 2) (.tmp 16) rfl rfl (nc (wd R.val 4)) rfl wnum_size (wd4 _) (wd4 _) (nc_one _) ?_
    have gr := grown_row w7 (g + 1) (nc (wd R.val 4)).toArray
    have s8 : S _ := ⟨arr_grown A0.out gr (by omega), arr_grown A4.out gr (by have := HP4.out; omega)⟩
    have AF := Lib.hid (A1.out.row (nc (wd R.val 4)))
    have HBF := Lib.hid (below_row HB7.out (show g ≤ g + 1 by omega) (nc (wd R.val 4)).toArray)
    clear gr s7
    generalize World.setRow _ _ _ = w8 at *
    refine hK _ _ ⟨s8, ?_⟩
    clear hK K s8
    refine tree_read rfl (fun K hK => ?_); go_simp; refine ⟨_, fun _ _ => rfl, hK _ ?_⟩; clear hK K
    refine tree_done ?_
    clear S
    go_wp2
    refine bodyPost_ret (v := .tuple #[.agg (nc (wd R.val 4)).toArray, .bool ok]) (by exact AF.out.ret2 rfl _ rfl rfl wnum_u rfl wnum_size (wd4 _)) rfl ⟨rfl, by rw [HG.out]; exact HBF.out⟩
  · have hdq : (!decide (q = x)) = true := by rw [decide_eq_false hqe]; rfl
    have hRi := HRi.out
    rw [if_neg hqe] at hRi
    obtain rfl := hRi.symm
    rw [hdq]
    clear hdq hqe HRi
    go_wp2_with (first | (show wpList _ _ _ (⟨_, Op.load _ (.tmp 4), _, _, _, _⟩ :: _) _ _; refine Arr.loadL A4.out rfl 46 (.tmp 4) rfl rfl wnum_u rfl wnum_size (wd4 _) ?_) | (show wpList _ _ _ (⟨_, Op.load _ (.global _), _, _, _, _⟩ :: _) _ _; refine Tab.loadL HT.out rfl 46 (.global 1) rfl rfl wnum_u rfl wnum_size (wd4 _) ?_))
    refine (HI.out w4).mono ?_
    clear HI
    rintro e w5 ⟨rfl, b5⟩
    replace A0 := Lib.hid (A0.out.below b5 A0.out.lt)
    replace A1 := Lib.hid (A1.out.below b5 A1.out.lt)
    replace A4 := Lib.hid (A4.out.below b5 A4.out.lt)
    have HB5 := Lib.hid (HB4.out.trans (b5.mono (by have := HZ4.out; omega)))
    have HZ5 := Lib.hid (Nat.le_trans HZ4.out b5.size)
    clear b5 HT HB4 HZ4
    go_upto_region 4 with (show wpList _ _ _ (⟨_, Op.store _ (.tmp 4) _, _, _, _, _⟩ :: _) _ _; refine Arr.storeL A4.out rfl 46 (.tmp 4) (.tmp 15) rfl rfl (nc (wd R.val 4)) rfl wnum_size (by rfl) (wd4 _) (nc_one _) ?_)
    have gr := grown_row w5 p4 (nc (wd R.val 4)).toArray
    have a4 := A4.out.row (nc (wd R.val 4))
    have a0 := arr_grown A0.out gr (by have := HP4.out; omega)
    have a1 := arr_grown A1.out gr (by have := HP4.out; omega)
    have bb := below_row HB5.out (show g ≤ p4 by have := HP4.out; omega) (nc (wd R.val 4)).toArray
    have zz := gr.size
    generalize World.setRow _ _ _ = w6 at *
    have HBC := Lib.hid bb
    have HZC := Lib.hid (Nat.le_trans HZ5.out zz)
    replace A0 := Lib.hid a0
    replace A1 := Lib.hid a1
    replace A4 := Lib.hid a4
    clear gr a4 a0 a1 bb zz HB5 HZ5
    go_upto_region 4 with (fail)
    let S : World → Prop := fun V => Arr V g 46 (nc (wd x.val 4)) ∧ Arr V p4 46 (nc (wd R.val 4))
    have s5 : S w6.drew := ⟨A0.out.drew, A4.out.drew⟩
    refine wp_region_tree (.read 0 (.read 1 (.read 2 (.read 4 (.step 3 (.read 5 (.step 6 (.read 7 .done)))))))) S (by kernel_rfl) (by kernel_rfl) (by decide) (fun _ _ d _ _ h => by cases d <;> exact h) s5 ?_
    refine tree_read rfl (fun K hK => ?_)
    refine loadT (by rfl) (fun V (h : S V) => h.2) 46 (.tmp 4) rfl rfl wnum_u rfl wnum_size (wd4 _) ?_
    refine hK _ ?_; clear hK K
    refine tree_read rfl (fun K hK => ?_)
    refine loadT (by rfl) (fun V (h : S V) => h.2) 46 (.tmp 4) rfl rfl wnum_u rfl wnum_size (wd4 _) ?_
    refine hK _ ?_; clear hK K
    refine tree_read rfl (fun K hK => ?_)
    refine loadT (by rfl) (fun V (h : S V) => h.2) 46 (.tmp 4) rfl rfl wnum_u rfl wnum_size (wd4 _) ?_
    refine hK _ ?_; clear hK K
    refine tree_read rfl (fun K hK => ?_)
    refine loadT (by rfl) (fun V (h : S V) => h.1) 46 (.tmp 1) rfl rfl wnum_u rfl wnum_size (wd4 _) ?_
    refine hK _ ?_; clear hK K
    have CS := Lib.hid (HS.out w6.drew)
    refine tree_step rfl s5 (fun K hK => ?_)
    clear s5
    go_simp
    refine CS.out.mono ?_
    clear CS
    rintro e w7 ⟨rfl, b7⟩
    replace b7 : Below w6.heap.size w6 w7 := ((Below.refl w6.heap.size w6).drew).trans (show Below w6.heap.size w6.drew w7 from b7)
    replace A0 := Lib.hid (A0.out.below b7 A0.out.lt)
    replace A1 := Lib.hid (A1.out.below b7 A1.out.lt)
    replace A4 := Lib.hid (A4.out.below b7 A4.out.lt)
    have HB7 := Lib.hid (HBC.out.trans (b7.mono (by have := HZC.out; omega)))
    clear b7
    have s7 : S w7 := ⟨A0.out, A4.out⟩
    refine hK _ _ ⟨s7, ?_⟩
    clear hK K
    refine tree_read rfl (fun K hK => ?_)
    rw [if_pos (show Region.wanted _ _ = true from rfl)]
    refine ⟨.bool ok, fun V _ => ?_, hK _ ?_⟩
    · have hq := HQ2.out V
      clear hK K
      go_simp
    clear hK K
    refine tree_step rfl s7 (fun K hK => ?_)
    rw [if_pos (show Region.wanted _ _ = true from rfl)]
    refine Arr.storeO A1.out 46 (.tmp 2) (.tmp 16) rfl rfl (nc (wd R.val 4)) rfl wnum_size (wd4 _) (wd4 _) (nc_one _) ?_
    have gr := grown_row w7 (g + 1) (nc (wd R.val 4)).toArray
    have s8 : S _ := ⟨arr_grown A0.out gr (by omega), arr_grown A4.out gr (by have := HP4.out; omega)⟩
    have AF := Lib.hid (A1.out.row (nc (wd R.val 4)))
    have HBF := Lib.hid (below_row HB7.out (show g ≤ g + 1 by omega) (nc (wd R.val 4)).toArray)
    clear gr s7
    generalize World.setRow _ _ _ = w8 at *
    refine hK _ _ ⟨s8, ?_⟩
    clear hK K s8
    refine tree_read rfl (fun K hK => ?_); go_simp; refine ⟨_, fun _ _ => rfl, hK _ ?_⟩; clear hK K
    refine tree_done ?_
    clear S
    go_wp2
    refine bodyPost_ret (v := .tuple #[.agg (nc (wd R.val 4)).toArray, .bool ok]) (by exact AF.out.ret2 rfl _ rfl rfl wnum_u rfl wnum_size (wd4 _)) rfl ⟨rfl, by rw [HG.out]; exact HBF.out⟩

end Go.Proofs.YtfngomlknhappaaDoor.FieldWW
