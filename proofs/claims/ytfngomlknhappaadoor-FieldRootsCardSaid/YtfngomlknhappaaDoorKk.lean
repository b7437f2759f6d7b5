/-
  Several texts in one: BigSetN, BigNeg, BigAdd, BigSub. What each holds stands at its head. Conditions: in each statement.
-/
import Derived.Test.YtfngomlknhappaaDoorKj
import Derived.Test.YtfngomlknhappaaDoorCellsA
import Derived.Test.YtfngomlknhappaaDoorTreeB
import Derived.Lib.AppendZeros

/-
  The document's own whole numbers: Set, Neg, Cmp, Sign. Conditions: in each statement.
-/
namespace Go.Proofs.YtfngomlknhappaaDoor.BigSetNW
open Go.RowKit BytesW CellsW WordsW ArrW BigW BigNewW BigMulW BigM BigCmpW

/-- A number stays where only another one's block is written. -/
theorem intAt_keep {w w' : World} {g gz : Nat} {neg nz : Bool} {d : List Nat} {Az : Option Addr} {n c : Nat} (h : IntAt w g neg d) (hz : Arr w gz 34 [.bool nz, .slice Az n c]) (hg : w.grownBy w' (some gz)) (hne : g ≠ gz) : IntAt w' g neg d := by
  obtain ⟨⟨A, c', ha, hu, hc⟩, hs, ht⟩ := h
  refine ⟨⟨A, c', (hg.block g ha.lt (fun e => hne (by cases e; rfl))).trans ha, fun h0 => ?_, hc⟩, hs, ht⟩
  obtain ⟨ad, e, hbl⟩ := us_apart hz hu h0
  obtain ⟨ad', e', hlt, hcl⟩ := hu h0
  rw [e] at e'
  cases e'
  exact ⟨ad, e, Nat.lt_of_lt_of_le hlt hg.size, fun k hk => (World.cell?_of_block (hg.block _ (by rw [add_block]; exact hlt) (by rw [add_block]; exact fun q => hbl (by cases q; rfl)))).trans (hcl k hk)⟩
theorem intAt_arr {w : World} {g : Nat} {neg : Bool} {d : List Nat} (h : IntAt w g neg d) : ∃ A c, Arr w g 34 [.bool neg, .slice A d.length c] := by
  obtain ⟨⟨A, c, ha, _⟩, _⟩ := h
  exact ⟨A, c, ha⟩
theorem intAt_below {w w' : World} {g : Nat} {neg : Bool} {d : List Nat} (h : IntAt w g neg d) (hb : Below w.heap.size w w') : IntAt w' g neg d := by
  obtain ⟨⟨A, c, ha, hu, hc⟩, hs, ht⟩ := h
  exact ⟨⟨A, c, ha.below hb ha.lt, (hu.below hb).more hb.size, hc⟩, hs, ht⟩

/-- A block that lies there as a number does. -/
def Shape (w : World) (g : Nat) : Prop := ∃ (b : Bool) (A : Option Addr) (n c : Nat), Arr w g 34 [.bool b, .slice A n c]
theorem intAt_shape {w : World} {g : Nat} {neg : Bool} {d : List Nat} (h : IntAt w g neg d) : Shape w g := by
  obtain ⟨A, c, ha⟩ := intAt_arr h
  exact ⟨_, _, _, _, ha⟩

theorem run_us (w : World) (B N : Nat) (ty : TypeId) (v : Value) (l : List Nat) (hown : URow B w v l) (A : Option Addr) (m : List Nat) (cp : Nat) (hm : Us w N A m) (hl : l.length + m.length ≤ 35184372088832) (hB : B ≤ w.heap.size) :
    ∃ v' w', (Builtin.append_ #[32, 32] ty #[v, .slice A m.length cp]).run Tryd.prog w = .ok v' w' ∧ URow B w' v' (l ++ m) ∧ w.grownBy w' v.ownBlock := by
  unfold URow at hown
  cases A with
  | none =>
    have hm0 : m = [] := by
      cases m with
      | nil => rfl
      | cons y r => obtain ⟨ad, e, _⟩ := hm (by simp); cases e
    subst hm0
    refine ⟨v, w, CellsA.run_mapp_nil w B 32 ty 57 (.int .u32 0) 4 Tryd.underlying32 infoWord v _ hown cp, by simpa [URow] using hown, ⟨rfl, rfl, rfl, Nat.le_refl _, fun _ _ _ => rfl⟩⟩
  | some ad =>
    obtain ⟨v', w', hr, h1, hg, -⟩ := CellsA.run_mapp w B 32 ty 57 (.int .u32 0) 4 Tryd.underlying32 infoWord rfl v (wc l) hown ad m.length cp (wc m) (wc_length m)
      (fun j u hj => by
        have hjl : j < m.length := by
          rcases Nat.lt_or_ge j m.length with h | h
          · exact h
          · simp [wc, h] at hj
        obtain ⟨ad', e, _, hc⟩ := hm.at_ hjl
        cases e
        rw [hc]
        simpa [wc, List.getElem?_eq_getElem hjl] using hj)
      (fun u hu => by
        simp only [wc, List.mem_map] at hu
        obtain ⟨b, _, rfl⟩ := hu
        rfl) (by rw [wc_length]; omega) (by rw [wc_length]; omega) hB
    refine ⟨v', w', hr, ?_, hg⟩
    unfold URow
    rw [wc_append]
    exact h1
theorem set_same {w : World} {gz gx : Nat} {t : TypeId} {b : Bool} {u : Value} (h : Arr w gx t [.bool b, u]) : Arr (w.setCell ⟨gz, 0, none⟩ (.bool b)) gx t [.bool b, u] := by
  by_cases e : gz = gx
  · subst e
    exact h.set 0 (.bool b)
  · exact h.other ⟨gz, 0, none⟩ _ (fun q => e q)

set_option maxHeartbeats 4000000 in
set_option maxRecDepth 100000 in
theorem set_any (gz gx : Nat) (nx : Bool) (dx : List Nat) (w : World) (hz : Shape w gz) (hx : IntAt w gx nx dx) (lx : dx.length ≤ 1048576) :
    Calls Tryd.prog 57 #[.pointer (some ⟨gz, 0, none⟩), .pointer (some ⟨gx, 0, none⟩)] w fun e w' => e = .returned (.pointer (some ⟨gz, 0, none⟩)) ∧ IntAt w' gz nx dx ∧ w.grownBy w' (some gz) := by
  obtain ⟨bz, Az, nz, cz, az⟩ := hz
  obtain ⟨⟨Ax, cx, ax, ux, -⟩, sx, tx⟩ := hx
  have kx0 : w.cell? ⟨gx, 0, none⟩ = some (.bool nx) := ax.cell 0
  have kx1 : w.cell? ⟨gx, 1, none⟩ = some (.slice Ax dx.length cx) := ax.cell 1
  go_enter Tryd.func57, Tryd.ntmps57
  have HX := Lib.hid ax
  have HZ := Lib.hid az
  have HU := Lib.hid ux
  have SX := Lib.hid sx
  have TX := Lib.hid tx
  have ur : URow w.drew.heap.size (w.drew.alloc (.cells #[] 57)) (.slice (some ⟨w.drew.heap.size, 0, none⟩) 0 0) [] := World.ownsRow_made w.drew #[] 0 (Nat.le_refl _) (by decide) rfl
  have e1 : (w.drew.alloc (.cells #[] 57)).heap.size = w.heap.size + 1 := by simp
  have b1 := (Below.refl w.drew.heap.size w.drew).alloc (Nat.le_refl _) (.cells #[] 57)
  obtain ⟨v2, w2, hr2, r2, g2⟩ := run_us (w.drew.alloc (.cells #[] 57)) w.drew.heap.size w.heap.size 32 (.slice (some ⟨w.drew.heap.size, 0, none⟩) 0 0) [] ur Ax dx cx (ux.below ((⟨rfl, rfl, rfl, Nat.le_refl _, fun _ _ => rfl⟩ : Below w.heap.size w w.drew).trans b1)) (by simp; omega) (by simp)
  rw [List.nil_append] at r2
  have hb2 : Below w.heap.size w w2 := (⟨rfl, rfl, rfl, Nat.le_refl _, fun _ _ => rfl⟩ : Below w.heap.size w w.drew).trans (b1.trans ((Below.refl w.drew.heap.size _).grown g2 (by simp) fun k hk => by
    have : w.drew.heap.size = k := by simpa [Value.ownBlock] using hk
    omega))
  obtain ⟨A2, c2, rfl, u2, hc2⟩ := r2.form
  have U2 := Lib.hid u2
  have HC2 := Lib.hid hc2
  have RN := Lib.hid hr2
  have R2 := Lib.hid r2
  have B2 := Lib.hid hb2
  clear ux sx tx ur e1 hr2 r2 g2 hb2 ax az u2 hc2
  go_upto_region 1 with (fail)
  have hwd : Nonempty (Wd (fun W => Arr W gx 34 [.bool nx, .slice Ax dx.length cx])) := Wd.some HX.out
  have kq0 : ∀ x : Wd (fun W => Arr W gx 34 [.bool nx, .slice Ax dx.length cx]), x.val.cell? ⟨gx, 0, none⟩ = some (.bool nx) := fun x => x.property.cell 0
  have kq1 : ∀ x : Wd (fun W => Arr W gx 34 [.bool nx, .slice Ax dx.length cx]), x.val.cell? ⟨gx, 1, none⟩ = some (.slice Ax dx.length cx) := fun x => x.property.cell 1
  refine wp_region_treeB (.read 0 (.read 1 (.read 2 (.read 3 (.read 4 (.read 5 (.read 7 (.read 8 (.read 9 (.read 10 (.step 6 (.step 11 (.step 12 (.step 13 (.step 14 (.step 15 (.step 16 (.step 17 .done)))))))))))))))))) 17 (fun W => ∃ x : Wd (fun W => Arr W gx 34 [.bool nx, .slice Ax dx.length cx]), W = x.val) (by kernel_rfl) (by kernel_rfl) (by decide) (fun _ _ d _ _ h => by cases d <;> exact h) (Wd.of HX.out.drew) ?_
  iterate 10 (refine treeB_read rfl (fun K hK => ?_); go_simp; refine hK _ ?_; clear hK K)
  clear hwd kq0 kq1 kx0 kx1
  refine treeB_step rfl rfl (fun K hK => ?_)
  go_simp
  refine hK _ _ ⟨fun _ => Wd.of (HX.out.drew.alloc _), ?_⟩
  clear hK K
  refine treeB_step rfl rfl (fun K hK => ?_)
  refine Lib.wp_append_run (w.drew.alloc (.cells #[] 57)) (.tmp 11) (.tmp 15) 32 32 rfl (.slice (some ⟨w.drew.heap.size, 0, none⟩) 0 0) (.slice Ax dx.length cx) rfl rfl _ w2 RN.out ?_
  have X2 := Lib.hid (HX.out.below B2.out HX.out.lt)
  have Z2 := Lib.hid (HZ.out.below B2.out HZ.out.lt)
  refine hK _ _ ⟨fun _ => Wd.of X2.out, ?_⟩
  clear hK K RN
  iterate 2 (refine treeB_step rfl rfl (fun K hK => ?_); go_simp; refine hK _ _ ⟨fun _ => Wd.of X2.out, ?_⟩; clear hK K)
  have kz0 : w2.cell? ⟨gz, 0, none⟩ = some (.bool bz) := Z2.out.cell 0
  have fz0 := Z2.out.frozen 0
  have az3 := Z2.out.set 0 (.bool nx)
  have ax3 := set_same (gz := gz) X2.out
  have g3 := grown_set w2 gz 0 (.bool nx)
  simp only [List.set_cons_zero] at az3
  refine treeB_step rfl rfl (fun K hK => ?_)
  go_simp
  refine hK _ _ ⟨fun _ => Wd.of ax3, ?_⟩
  clear hK K kz0 fz0
  obtain ⟨w3, hw3⟩ : ∃ w3, w2.setCell ⟨gz, 0, none⟩ (.bool nx) = w3 := ⟨_, rfl⟩
  rw [hw3] at az3 ax3 g3 ⊢
  iterate 2 (refine treeB_step rfl rfl (fun K hK => ?_); go_simp; refine hK _ _ ⟨fun _ => Wd.of ax3, ?_⟩; clear hK K)
  have kz1 : w3.cell? ⟨gz, 1, none⟩ = some (.slice Az nz cz) := az3.cell 1
  have fz1 := az3.frozen 1
  refine treeB_step rfl rfl (fun K hK => ?_)
  go_simp
  refine hK _ _ ⟨fun h => absurd rfl h, ?_⟩
  clear hK K
  refine treeB_done ?_
  have a4 := az3.set 1 (.slice A2 dx.length c2)
  simp only [List.set_cons_zero, List.set_cons_succ] at a4
  have u3 : Us w3 w3.heap.size A2 dx := by
    have h := Us.other Z2.out U2.out (k := 0) (.bool nx)
    rw [hw3] at h
    have e : w3.heap.size = w2.heap.size := by rw [← hw3]; simp
    rw [e]
    exact h
  have u4 := Us.other az3 u3 (k := 1) (.slice A2 dx.length c2)
  have e4 : (w3.setCell ⟨gz, 1, none⟩ (.slice A2 dx.length c2)).heap.size = w3.heap.size := by simp
  have g4 := grown_trans (grown_of_below (g := gz) B2.out) (grown_trans g3 (grown_set w3 gz 1 (.slice A2 dx.length c2)))
  have HI : Hid (IntAt (w3.setCell ⟨gz, 1, none⟩ (.slice A2 dx.length c2)) gz nx dx) := Lib.hid ⟨⟨A2, c2, a4, by rw [e4]; exact u4, HC2.out⟩, SX.out, TX.out⟩
  have HG := Lib.hid g4
  clear a4 u3 u4 e4 g4 kz1 fz1 az3 ax3 g3 hw3 X2 Z2 U2
  go_wp2
  go_ret
  exact ⟨rfl, HI.out, HG.out⟩
end Go.Proofs.YtfngomlknhappaaDoor.BigSetNW

/-
  The document's own whole numbers: Neg, Cmp, Sign. Conditions: in each statement.
-/
namespace Go.Proofs.YtfngomlknhappaaDoor.BigNegW
open Go.RowKit BytesW CellsW WordsW ArrW BigW BigNewW BigMulW BigM BigCmpW BigSetNW

/-- Greater than any number that is met. -/
def BIG : Nat := 4294967296 ^ 1024
theorem len_big {d : List Nat} (ht : Tidy d) (h : dval d < BIG) : d.length ≤ 1024 := by
  unfold BIG at h
  exact len_le ht h
theorem sgn_abs (b : Bool) (n : Nat) : (sgn b n).natAbs = n := by unfold sgn; split <;> omega
theorem dval_pos {d : List Nat} (ht : Tidy d) (h : d ≠ []) : 0 < dval d := by
  rcases Nat.eq_zero_or_pos (dval d) with h1 | h1
  · exact absurd (dval_zero ht h1) h
  · exact h1
theorem sgn_neg (b : Bool) {d : List Nat} : -(sgn b (dval d)) = sgn (!b && decide (0 < d.length)) (dval d) := by
  cases d with
  | nil => cases b <;> rfl
  | cons x r => cases b <;> simp [sgn]

set_option maxHeartbeats 4000000 in
set_option maxRecDepth 100000 in
theorem neg_any (gz gx : Nat) (x : Int) (w : World) (hz : Shape w gz) (hx : IntV w gx x) (hb : x.natAbs < BIG) :
    Calls Tryd.prog 43 #[.pointer (some ⟨gz, 0, none⟩), .pointer (some ⟨gx, 0, none⟩)] w fun e w' => e = .returned (.pointer (some ⟨gz, 0, none⟩)) ∧ IntV w' gz (-x) ∧ w.grownBy w' (some gz) := by
  obtain ⟨nx, dx, hix, rfl, hne⟩ := hx
  rw [sgn_abs] at hb
  have hl := len_big hix.2.2 hb
  have HS := Lib.hid (set_any gz gx nx dx w hz hix (by omega))
  have HNe := Lib.hid hne
  clear hz hix hb hne
  go_enter Tryd.func43, Tryd.ntmps43
  go_wp2_with fail
  refine HS.out.mono ?_
  clear HS
  rintro e w1 ⟨rfl, hi, hg⟩
  obtain ⟨⟨A, c, ha, hu, hc⟩, hs, ht⟩ := hi
  have k0 : w1.cell? ⟨gz, 0, none⟩ = some (.bool nx) := ha.cell 0
  have k1 : w1.cell? ⟨gz, 1, none⟩ = some (.slice A dx.length c) := ha.cell 1
  have f0 := ha.frozen 0
  obtain ⟨nb, hnb⟩ : ∃ nb, (!nx && decide (0 < dx.length)) = nb := ⟨_, rfl⟩
  have a2 := ha.set 0 (.bool nb)
  simp only [List.set_cons_zero] at a2
  have u2 := Us.other ha hu (k := 0) (.bool nb)
  have e2 : (w1.setCell ⟨gz, 0, none⟩ (.bool nb)).heap.size = w1.heap.size := by simp
  have HI : Hid (IntAt (w1.setCell ⟨gz, 0, none⟩ (.bool nb)) gz nb dx) := Lib.hid ⟨⟨A, c, a2, by rw [e2]; exact u2, hc⟩, hs, ht⟩
  have HG := Lib.hid (grown_trans hg (grown_set w1 gz 0 (.bool nb)))
  have HE := Lib.hid (show -(sgn nx (dval dx)) = sgn nb (dval dx) by rw [sgn_neg, hnb])
  have HN2 := Lib.hid (show nb = true → dx ≠ [] by
    intro h1 h2
    rw [← hnb, h2] at h1
    simp at h1)
  clear a2 u2 e2 ha hu hc hs ht hg
  cases nx with
  | true =>
    obtain rfl : nb = false := by rw [← hnb]; rfl
    clear hnb
    go_wp2
    go_ret
    exact ⟨rfl, ⟨_, _, HI.out, HE.out, fun h => by first | exact HN2.out trivial | cases h⟩, HG.out⟩
  | false =>
    by_cases h0 : 0 < dx.length
    · have t0 : decide ((dx.length : Int) > 0) = true := decide_eq_true (by omega)
      have t1 : decide (0 < dx.length) = true := decide_eq_true h0
      obtain rfl : nb = true := by rw [← hnb, t1]; rfl
      clear hnb
      go_wp2
      go_ret
      exact ⟨rfl, ⟨_, _, HI.out, HE.out, fun h => by first | exact HN2.out trivial | cases h⟩, HG.out⟩
    · have t0 : decide ((dx.length : Int) > 0) = false := decide_eq_false (by omega)
      have t1 : decide (0 < dx.length) = false := decide_eq_false h0
      obtain rfl : nb = false := by rw [← hnb, t1]; rfl
      clear hnb
      go_wp2
      go_ret
      exact ⟨rfl, ⟨_, _, HI.out, HE.out, fun h => by first | exact HN2.out trivial | cases h⟩, HG.out⟩

/-- -1, 0 or 1, of numbers with a sign. -/
def cmpI (x y : Int) : Int := if x < y then -1 else if x = y then 0 else 1
theorem cmpI_same {a b : Nat} : cmpI (a : Int) (b : Int) = cmpN a b := by unfold cmpI cmpN; split <;> split <;> (first | rfl | omega | (split <;> first | rfl | omega) | skip) <;> (split <;> first | rfl | omega)
set_option maxHeartbeats 4000000 in
set_option maxRecDepth 100000 in
theorem cmp_any (gx gy : Nat) (x y : Int) (w : World) (hx : IntV w gx x) (hy : IntV w gy y) (bx : x.natAbs < BIG) (by' : y.natAbs < BIG) :
    Calls Tryd.prog 32 #[.pointer (some ⟨gx, 0, none⟩), .pointer (some ⟨gy, 0, none⟩)] w fun e w' => e = .returned (.int .i64 (cmpI x y)) ∧ Below w.heap.size w w' := by
  obtain ⟨nx, dx, hix, rfl, hnx⟩ := hx
  obtain ⟨ny, dy, hiy, rfl, hny⟩ := hy
  rw [sgn_abs] at bx by'
  have lx := len_big hix.2.2 bx
  have ly := len_big hiy.2.2 by'
  have px := fun h => dval_pos hix.2.2 (hnx h)
  have py := fun h => dval_pos hiy.2.2 (hny h)
  have kx : w.cell? ⟨gx, 0, none⟩ = some (.bool nx) := by obtain ⟨A, c, ha⟩ := intAt_arr hix; exact ha.cell 0
  have ky : w.cell? ⟨gy, 0, none⟩ = some (.bool ny) := by obtain ⟨A, c, ha⟩ := intAt_arr hiy; exact ha.cell 0
  have HX := Lib.hid hix
  have HY := Lib.hid hiy
  obtain ⟨R, hR⟩ : ∃ R, cmpI (sgn nx (dval dx)) (sgn ny (dval dy)) = R := ⟨_, rfl⟩
  rw [hR]
  have HR := Lib.hid hR
  have PX := Lib.hid px
  have PY := Lib.hid py
  have hdr : ∀ n, Below w.heap.size w (w.drewN n) := fun n => ⟨rfl, rfl, rfl, Nat.le_refl _, fun _ _ => rfl⟩
  have HDr := Lib.hid hdr
  clear hix hiy px py hnx hny bx by' hR hdr
  cases nx <;> cases ny
  · have hr : R = cmpN (dval dx) (dval dy) := by rw [← HR.out]; exact cmpI_same
    subst hr
    go_enter Tryd.func32, Tryd.ntmps32
    go_wp2
    go_quiet (fail)
    have HC := Lib.hid (cmpabs_any gx gy false false dx dy (w.drewN nq) (intAt_below HX.out (HDr.out nq)) (intAt_below HY.out (HDr.out nq)) (by omega) (by omega))
    go_wp2_with fail
    refine HC.out.mono ?_
    rintro e w2 ⟨rfl, n2, rfl⟩
    go_wp2
    go_ret
    exact ⟨rfl, by first | exact HDr.out _ | (rw [World.drewN_drewN]; exact HDr.out _)⟩
  · have hr : R = 1 := by
      rw [← HR.out]
      have := PY.out rfl
      unfold cmpI sgn
      simp only [Bool.false_eq_true, if_false, if_true]
      rw [if_neg (by omega), if_neg (by omega)]
    subst hr
    go_enter Tryd.func32, Tryd.ntmps32
    go_wp2
    go_quiet (fail)
    go_wp2
    go_ret
    exact ⟨rfl, HDr.out _⟩
  · have hr : R = -1 := by
      rw [← HR.out]
      have := PX.out rfl
      unfold cmpI sgn
      simp only [Bool.false_eq_true, if_false, if_true]
      rw [if_pos (by omega)]
    subst hr
    go_enter Tryd.func32, Tryd.ntmps32
    go_wp2
    go_quiet (fail)
    go_wp2
    go_ret
    exact ⟨rfl, HDr.out _⟩
  · have hr : R = cmpN (dval dy) (dval dx) := by
      rw [← HR.out, ← cmpI_same]
      unfold cmpI sgn
      simp only [if_true]
      split <;> split <;> (try omega) <;> (try rfl) <;> (split <;> (try omega) <;> (try rfl)) <;> (try (split <;> (try omega) <;> (try rfl)))
    subst hr
    go_enter Tryd.func32, Tryd.ntmps32
    go_wp2
    go_quiet (fail)
    have HC := Lib.hid (cmpabs_any gy gx true true dy dx (w.drewN nq) (intAt_below HY.out (HDr.out nq)) (intAt_below HX.out (HDr.out nq)) (by omega) (by omega))
    go_wp2_with fail
    refine HC.out.mono ?_
    rintro e w2 ⟨rfl, n2, rfl⟩
    go_wp2
    go_ret
    exact ⟨rfl, by first | exact HDr.out _ | (rw [World.drewN_drewN]; exact HDr.out _)⟩
end Go.Proofs.YtfngomlknhappaaDoor.BigNegW

/-
  The document's own whole numbers: Add, Sub. Conditions: in each statement.
-/
namespace Go.Proofs.YtfngomlknhappaaDoor.BigAddW
open Go.RowKit BytesW CellsW WordsW ArrW BigW BigNewW BigMulW BigM BigCmpW BigSumW BigLessW BigSetNW BigNegW

/-- What a store of signs and digits reads: one number's both, the other one's digits. -/
def Rd (gs go : Nat) (ns : Bool) (us uo : Value) (W : World) : Prop := Arr W gs 34 [.bool ns, us] ∧ ∃ b, Arr W go 34 [.bool b, uo]
theorem Rd.below {gs go : Nat} {ns : Bool} {us uo : Value} {W W' : World} (h : Rd gs go ns us uo W) (hb : Below W.heap.size W W') : Rd gs go ns us uo W' := by
  obtain ⟨h1, b, h2⟩ := h
  exact ⟨h1.below hb h1.lt, b, h2.below hb h2.lt⟩
theorem Rd.set {gs go : Nat} {ns : Bool} {us uo : Value} {W : World} (h : Rd gs go ns us uo W) (gz : Nat) : Rd gs go ns us uo (W.setCell ⟨gz, 0, none⟩ (.bool ns)) := by
  obtain ⟨h1, b, h2⟩ := h
  refine ⟨set_same h1, ?_⟩
  by_cases e : gz = go
  · subst e
    exact ⟨ns, h2.set 0 (.bool ns)⟩
  · exact ⟨b, h2.other ⟨gz, 0, none⟩ _ (fun q => e q)⟩
theorem shape_below {w w' : World} {g : Nat} (h : Shape w g) (hb : Below w.heap.size w w') : Shape w' g := by
  obtain ⟨b, A, n, c, ha⟩ := h
  exact ⟨b, A, n, c, ha.below hb ha.lt⟩
theorem sgn_trim (ns : Bool) (D : List Nat) : sgn (ns && !(trimL D).isEmpty) (dval (trimL D)) = sgn ns (dval D) := by
  rw [dval_trim]
  cases e : (trimL D) with
  | nil =>
    have h0 : dval D = 0 := by rw [← dval_trim, e]; rfl
    rw [h0]
    cases ns <;> rfl
  | cons x r => cases ns <;> rfl
theorem trim_ne (ns : Bool) (D : List Nat) : (ns && !(trimL D).isEmpty) = true → trimL D ≠ [] := by
  intro h h0
  rw [h0] at h
  simp at h
theorem drew_below (w : World) : Below w.heap.size w w.drew := ⟨rfl, rfl, rfl, Nat.le_refl _, fun _ _ => rfl⟩
theorem drewN_below (w : World) (n : Nat) : Below w.heap.size w (w.drewN n) := ⟨rfl, rfl, rfl, Nat.le_refl _, fun _ _ => rfl⟩

set_option maxHeartbeats 8000000 in
set_option maxRecDepth 100000 in
theorem add_any (gz gx gy : Nat) (x y : Int) (w : World) (hz : Shape w gz) (hx : IntV w gx x) (hy : IntV w gy y) (bx : x.natAbs < BIG) (by' : y.natAbs < BIG) :
    Calls Tryd.prog 16 #[.pointer (some ⟨gz, 0, none⟩), .pointer (some ⟨gx, 0, none⟩), .pointer (some ⟨gy, 0, none⟩)] w fun e w' => e = .returned (.pointer (some ⟨gz, 0, none⟩)) ∧ IntV w' gz (x + y) ∧ w.grownBy w' (some gz) := by
  obtain ⟨nx, dx, hix, rfl, hnx⟩ := hx
  obtain ⟨ny, dy, hiy, rfl, hny⟩ := hy
  rw [sgn_abs] at bx by'
  have lx := len_big hix.2.2 bx
  have ly := len_big hiy.2.2 by'
  have HIX := Lib.hid hix
  have HIY := Lib.hid hiy
  obtain ⟨⟨Ax, cx, ax, ux, -⟩, sx, tx⟩ := hix
  obtain ⟨⟨Ay, cy, ay, uy, -⟩, sy, ty⟩ := hiy
  have kx : w.cell? ⟨gx, 0, none⟩ = some (.bool nx) := ax.cell 0
  have ky : w.cell? ⟨gy, 0, none⟩ = some (.bool ny) := ay.cell 0
  have HAx := Lib.hid ax
  have HAy := Lib.hid ay
  have UX := Lib.hid ux
  have UY := Lib.hid uy
  have SX := Lib.hid sx
  have SY := Lib.hid sy
  have TX := Lib.hid tx
  have TY := Lib.hid ty
  have HZ := Lib.hid hz
  clear ax ay ux uy sx sy tx ty hz hnx hny bx by'
  by_cases hs : nx = ny
  · have hs' : ny = nx := hs.symm
    clear hs
    subst hs'
    have t1 : (ny == ny) = true := by simp
    go_enter Tryd.func16, Tryd.ntmps16
    go_wp2
    go_quiet (fail)
    obtain ⟨wq, hwq⟩ : ∃ wq, w.drewN nq = wq := ⟨_, rfl⟩
    have BQ := Lib.hid (show Below w.heap.size w wq by rw [← hwq]; exact drewN_below w nq)
    rw [hwq]
    clear hwq kx ky
    go_upto_region 3 with (fail)
    have hRd : Rd gx gy ny (.slice Ax dx.length cx) (.slice Ay dy.length cy) wq := ⟨(HAx.out.below BQ.out HAx.out.lt), ny, (HAy.out.below BQ.out HAy.out.lt)⟩
    have RD0 := Lib.hid (hRd.below (drew_below wq))
    have hwd : Nonempty (Wd (Rd gx gy ny (.slice Ax dx.length cx) (.slice Ay dy.length cy))) := Wd.some hRd
    have kq0 : ∀ x : Wd (Rd gx gy ny (.slice Ax dx.length cx) (.slice Ay dy.length cy)), x.val.cell? ⟨gx, 0, none⟩ = some (.bool ny) := fun x => x.property.1.cell 0
    have kq1 : ∀ x : Wd (Rd gx gy ny (.slice Ax dx.length cx) (.slice Ay dy.length cy)), x.val.cell? ⟨gx, 1, none⟩ = some (.slice Ax dx.length cx) := fun x => x.property.1.cell 1
    have kq2 : ∀ x : Wd (Rd gx gy ny (.slice Ax dx.length cx) (.slice Ay dy.length cy)), x.val.cell? ⟨gy, 1, none⟩ = some (.slice Ay dy.length cy) := fun x => by obtain ⟨b, h⟩ := x.property.2; exact h.cell 1
    have BQ1 := Lib.hid (BQ.out.trans ((drew_below wq).mono BQ.out.size))
    have HC := Lib.hid (sum_any Ax dx cx Ay dy cy wq.drew ((UX.out.below BQ1.out).more BQ1.out.size) ((UY.out.below BQ1.out).more BQ1.out.size) SX.out SY.out (by omega) (by omega))
    have Z1 := Lib.hid (shape_below HZ.out BQ1.out)
    clear hRd
    refine wp_region_treeB (.read 0 (.read 1 (.read 2 (.read 3 (.read 4 (.read 5 (.read 6 (.read 7 (.read 8 (.read 9 (.read 10 (.read 11 (.read 12 (.read 13 (.step 14 (.step 15 (.step 16 (.step 17 (.step 18 (.step 19 (.step 20 .done))))))))))))))))))))) 20 (fun W => ∃ x : Wd (Rd gx gy ny (.slice Ax dx.length cx) (.slice Ay dy.length cy)), W = x.val) (by kernel_rfl) (by kernel_rfl) (by decide) (fun _ _ d _ _ h => by cases d <;> exact h) (Wd.of RD0.out) ?_
    iterate 14 (refine treeB_read rfl (fun K hK => ?_); go_simp; refine hK _ ?_; clear hK K)
    clear hwd kq0 kq1 kq2
    refine treeB_step rfl rfl (fun K hK => ?_)
    go_simp
    refine HC.out.mono ?_
    clear HC
    rintro e w3 ⟨D, rfl, aD, sD, vD, lD, b3⟩
    have LD := Lib.hid lD
    clear lD
    have RD3 := Lib.hid (RD0.out.below b3)
    refine hK _ _ ⟨fun _ => Wd.of RD3.out, ?_⟩
    clear hK K
    iterate 2 (refine treeB_step rfl rfl (fun K hK => ?_); go_simp; refine hK _ _ ⟨fun _ => Wd.of RD3.out, ?_⟩; clear hK K)
    obtain ⟨bz, Az, nz, cz, az⟩ := shape_below Z1.out b3
    have kz0 : w3.cell? ⟨gz, 0, none⟩ = some (.bool bz) := az.cell 0
    have fz0 := az.frozen 0
    have az4 := az.set 0 (.bool ny)
    simp only [List.set_cons_zero] at az4
    have rd4 := RD3.out.set gz
    have u3 := us_of_arr aD
    have u4 := Us.other az u3 (k := 0) (.bool ny)
    have g4 := grown_set w3 gz 0 (.bool ny)
    refine treeB_step rfl rfl (fun K hK => ?_)
    go_simp
    refine hK _ _ ⟨fun _ => Wd.of rd4, ?_⟩
    clear hK K kz0 fz0
    have e4 : (w3.setCell ⟨gz, 0, none⟩ (.bool ny)).heap.size = w3.heap.size := by simp
    obtain ⟨w4, hw4⟩ : ∃ w4, w3.setCell ⟨gz, 0, none⟩ (.bool ny) = w4 := ⟨_, rfl⟩
    rw [hw4] at az4 rd4 g4 e4 u4 ⊢
    rw [← e4] at u4
    have RD4 := Lib.hid rd4
    iterate 2 (refine treeB_step rfl rfl (fun K hK => ?_); go_simp; refine hK _ _ ⟨fun _ => Wd.of RD4.out, ?_⟩; clear hK K)
    have kz1 : w4.cell? ⟨gz, 1, none⟩ = some (.slice Az nz cz) := az4.cell 1
    have fz1 := az4.frozen 1
    have az5 := az4.set 1 (.slice (some ⟨wq.heap.size, 0, none⟩) D.length D.length)
    simp only [List.set_cons_zero, List.set_cons_succ] at az5
    have u5 := Us.other az4 u4 (k := 1) (.slice (some ⟨wq.heap.size, 0, none⟩) D.length D.length)
    have g5 := grown_set w4 gz 1 (.slice (some ⟨wq.heap.size, 0, none⟩) D.length D.length)
    have e5 : (w4.setCell ⟨gz, 1, none⟩ (.slice (some ⟨wq.heap.size, 0, none⟩) D.length D.length)).heap.size = w4.heap.size := by simp
    refine treeB_step rfl rfl (fun K hK => ?_)
    go_simp
    refine hK _ _ ⟨fun h => absurd rfl h, ?_⟩
    clear hK K kz1 fz1
    refine treeB_done ?_
    obtain ⟨w5, hw5⟩ : ∃ w5, w4.setCell ⟨gz, 1, none⟩ (.slice (some ⟨wq.heap.size, 0, none⟩) D.length D.length) = w5 := ⟨_, rfl⟩
    change _ = _ at hw5
    rw [show (⟨gz, 1, none⟩ : Addr) = ⟨gz, 1, none⟩ from rfl] at hw5
    have hg5 := grown_trans (grown_of_below (g := gz) (BQ1.out.trans (b3.mono BQ1.out.size))) (grown_trans g4 g5)
    rw [hw5] at az5 u5 g5 e5 hg5
    have HT := Lib.hid (trim_any gz ny (some ⟨wq.heap.size, 0, none⟩) D D.length w5 az5 (by rw [e5]; exact u5) (Nat.le_refl _) sD (by have := LD.out; omega))
    have HG5 := Lib.hid hg5
    have HVal := Lib.hid (show sgn ny (dval dx) + sgn ny (dval dy) = sgn ny (dval D) by rw [vD]; unfold sgn; split <;> omega)
    have HW5 := Lib.hid hw5
    clear az5 u5 g5 e5 hg5 az4 rd4 u3 u4 g4 hw4 e4 az aD sD vD b3 RD3 RD4 hw5
    go_upto_region 6 with (fail)
    simp only [HW5.out]
    go_wp2_with fail
    refine HT.out.mono ?_
    clear HT
    rintro e w6 ⟨rfl, hI, hg⟩
    go_wp2
    go_ret
    exact ⟨rfl, ⟨_, _, hI, by rw [sgn_trim]; exact HVal.out, trim_ne _ _⟩, grown_trans HG5.out hg⟩
  · have t1 : (nx == ny) = false := by rw [beq_eq_false_iff_ne]; exact hs
    have HS := Lib.hid hs
    by_cases hge : dval dy ≤ dval dx
    · have hc : cmpN (dval dx) (dval dy) = 0 ∨ cmpN (dval dx) (dval dy) = 1 := by
        unfold cmpN
        rw [if_neg (by omega)]
        split
        · exact .inl rfl
        · exact .inr rfl
      obtain ⟨r, hr⟩ : ∃ r, cmpN (dval dx) (dval dy) = r := ⟨_, rfl⟩
      rw [hr] at hc
      have t2 : decide (r ≥ 0) = true := decide_eq_true (by omega)
      have HGe := Lib.hid hge
      have hll : dy.length ≤ dx.length := by
        rcases Nat.lt_or_ge dx.length dy.length with h | h
        · have := dval_lt_len SX.out TY.out h; omega
        · exact h
      have HLl := Lib.hid hll
      have HCm := Lib.hid (fun W hW => cmpabs_any gx gy nx ny dx dy W (intAt_below HIX.out hW) (intAt_below HIY.out hW) (by omega) (by omega))
      rw [hr] at HCm
      clear hc hge hr hll
      go_enter Tryd.func16, Tryd.ntmps16
      go_wp2
      go_quiet (fail)
      obtain ⟨wp, hwp⟩ : ∃ wp, w.drewN nq = wp := ⟨_, rfl⟩
      have BP := Lib.hid (show Below w.heap.size w wp by rw [← hwp]; exact drewN_below w nq)
      rw [hwp]
      clear hwp kx ky
      go_wp2_with fail
      refine (HCm.out wp BP.out).mono ?_
      clear HCm
      rintro e wc ⟨rfl, n2, hn2⟩
      obtain ⟨wq, hwq⟩ : ∃ wq, wc = wq := ⟨_, rfl⟩
      have BQ := Lib.hid (show Below w.heap.size w wq by rw [← hwq, hn2]; exact BP.out.trans ((drewN_below wp n2).mono BP.out.size))
      rw [hwq]
      clear hwq hn2
      go_upto_region 5 with (fail)
      have hRd : Rd gx gy nx (.slice Ax dx.length cx) (.slice Ay dy.length cy) wq := ⟨(HAx.out.below BQ.out HAx.out.lt), ny, (HAy.out.below BQ.out HAy.out.lt)⟩
      have RD0 := Lib.hid (hRd.below (drew_below wq))
      have hwd : Nonempty (Wd (Rd gx gy nx (.slice Ax dx.length cx) (.slice Ay dy.length cy))) := Wd.some hRd
      have kq0 : ∀ x : Wd (Rd gx gy nx (.slice Ax dx.length cx) (.slice Ay dy.length cy)), x.val.cell? ⟨gx, 0, none⟩ = some (.bool nx) := fun x => x.property.1.cell 0
      have kq1 : ∀ x : Wd (Rd gx gy nx (.slice Ax dx.length cx) (.slice Ay dy.length cy)), x.val.cell? ⟨gx, 1, none⟩ = some (.slice Ax dx.length cx) := fun x => x.property.1.cell 1
      have kq2 : ∀ x : Wd (Rd gx gy nx (.slice Ax dx.length cx) (.slice Ay dy.length cy)), x.val.cell? ⟨gy, 1, none⟩ = some (.slice Ay dy.length cy) := fun x => by obtain ⟨b, h⟩ := x.property.2; exact h.cell 1
      have BQ1 := Lib.hid (BQ.out.trans ((drew_below wq).mono BQ.out.size))
      have HC := Lib.hid (less_any Ax dx cx Ay dy cy wq.drew ((UX.out.below BQ1.out).more BQ1.out.size) ((UY.out.below BQ1.out).more BQ1.out.size) SX.out SY.out (by omega) HLl.out HGe.out)
      have Z1 := Lib.hid (shape_below HZ.out BQ1.out)
      clear hRd
      refine wp_region_treeB (.read 0 (.read 1 (.read 2 (.read 3 (.read 4 (.read 5 (.read 6 (.read 7 (.read 8 (.read 9 (.read 10 (.read 11 (.read 12 (.read 13 (.step 14 (.step 15 (.step 16 (.step 17 (.step 18 (.step 19 (.step 20 .done))))))))))))))))))))) 20 (fun W => ∃ x : Wd (Rd gx gy nx (.slice Ax dx.length cx) (.slice Ay dy.length cy)), W = x.val) (by kernel_rfl) (by kernel_rfl) (by decide) (fun _ _ d _ _ h => by cases d <;> exact h) (Wd.of RD0.out) ?_
      iterate 14 (refine treeB_read rfl (fun K hK => ?_); go_simp; refine hK _ ?_; clear hK K)
      clear hwd kq0 kq1 kq2
      refine treeB_step rfl rfl (fun K hK => ?_)
      go_simp
      refine HC.out.mono ?_
      clear HC
      rintro e w3 ⟨D, rfl, aD, sD, vD, lD, b3⟩
      have LD := Lib.hid lD
      clear lD
      have RD3 := Lib.hid (RD0.out.below b3)
      refine hK _ _ ⟨fun _ => Wd.of RD3.out, ?_⟩
      clear hK K
      iterate 2 (refine treeB_step rfl rfl (fun K hK => ?_); go_simp; refine hK _ _ ⟨fun _ => Wd.of RD3.out, ?_⟩; clear hK K)
      obtain ⟨bz, Az, nz, cz, az⟩ := shape_below Z1.out b3
      have kz0 : w3.cell? ⟨gz, 0, none⟩ = some (.bool bz) := az.cell 0
      have fz0 := az.frozen 0
      have az4 := az.set 0 (.bool nx)
      simp only [List.set_cons_zero] at az4
      have rd4 := RD3.out.set gz
      have u3 := us_of_arr aD
      have u4 := Us.other az u3 (k := 0) (.bool nx)
      have g4 := grown_set w3 gz 0 (.bool nx)
      refine treeB_step rfl rfl (fun K hK => ?_)
      go_simp
      refine hK _ _ ⟨fun _ => Wd.of rd4, ?_⟩
      clear hK K kz0 fz0
      have e4 : (w3.setCell ⟨gz, 0, none⟩ (.bool nx)).heap.size = w3.heap.size := by simp
      obtain ⟨w4, hw4⟩ : ∃ w4, w3.setCell ⟨gz, 0, none⟩ (.bool nx) = w4 := ⟨_, rfl⟩
      rw [hw4] at az4 rd4 g4 e4 u4 ⊢
      rw [← e4] at u4
      have RD4 := Lib.hid rd4
      iterate 2 (refine treeB_step rfl rfl (fun K hK => ?_); go_simp; refine hK _ _ ⟨fun _ => Wd.of RD4.out, ?_⟩; clear hK K)
      have kz1 : w4.cell? ⟨gz, 1, none⟩ = some (.slice Az nz cz) := az4.cell 1
      have fz1 := az4.frozen 1
      have az5 := az4.set 1 (.slice (some ⟨wq.heap.size, 0, none⟩) D.length D.length)
      simp only [List.set_cons_zero, List.set_cons_succ] at az5
      have u5 := Us.other az4 u4 (k := 1) (.slice (some ⟨wq.heap.size, 0, none⟩) D.length D.length)
      have g5 := grown_set w4 gz 1 (.slice (some ⟨wq.heap.size, 0, none⟩) D.length D.length)
      have e5 : (w4.setCell ⟨gz, 1, none⟩ (.slice (some ⟨wq.heap.size, 0, none⟩) D.length D.length)).heap.size = w4.heap.size := by simp
      refine treeB_step rfl rfl (fun K hK => ?_)
      go_simp
      refine hK _ _ ⟨fun h => absurd rfl h, ?_⟩
      clear hK K kz1 fz1
      refine treeB_done ?_
      obtain ⟨w5, hw5⟩ : ∃ w5, w4.setCell ⟨gz, 1, none⟩ (.slice (some ⟨wq.heap.size, 0, none⟩) D.length D.length) = w5 := ⟨_, rfl⟩
      change _ = _ at hw5
      rw [show (⟨gz, 1, none⟩ : Addr) = ⟨gz, 1, none⟩ from rfl] at hw5
      have hg5 := grown_trans (grown_of_below (g := gz) (BQ1.out.trans (b3.mono BQ1.out.size))) (grown_trans g4 g5)
      rw [hw5] at az5 u5 g5 e5 hg5
      have HT := Lib.hid (trim_any gz nx (some ⟨wq.heap.size, 0, none⟩) D D.length w5 az5 (by rw [e5]; exact u5) (Nat.le_refl _) sD (by have := LD.out; omega))
      have HG5 := Lib.hid hg5
      have HVal := Lib.hid (show sgn nx (dval dx) + sgn ny (dval dy) = sgn nx (dval D) by have h1 := HS.out; have h2 := HGe.out; rw [vD]; cases nx <;> cases ny <;> simp [sgn] at h1 ⊢ <;> omega)
      have HW5 := Lib.hid hw5
      clear az5 u5 g5 e5 hg5 az4 rd4 u3 u4 g4 hw4 e4 az aD sD vD b3 RD3 RD4 hw5
      go_upto_region 6 with (fail)
      simp only [HW5.out]
      go_wp2_with fail
      refine HT.out.mono ?_
      clear HT
      rintro e w6 ⟨rfl, hI, hg⟩
      go_wp2
      go_ret
      exact ⟨rfl, ⟨_, _, hI, by rw [sgn_trim]; exact HVal.out, trim_ne _ _⟩, grown_trans HG5.out hg⟩
    · have hc : cmpN (dval dx) (dval dy) = -1 := cmpN_lt (by omega)
      have hge2 : dval dx ≤ dval dy := by omega
      have t2 : decide ((-1 : Int) ≥ 0) = false := rfl
      have HGe := Lib.hid hge2
      have hll : dx.length ≤ dy.length := by
        rcases Nat.lt_or_ge dy.length dx.length with h | h
        · have := dval_lt_len SY.out TX.out h; omega
        · exact h
      have HLl := Lib.hid hll
      have HCm := Lib.hid (fun W hW => cmpabs_any gx gy nx ny dx dy W (intAt_below HIX.out hW) (intAt_below HIY.out hW) (by omega) (by omega))
      rw [hc] at HCm
      clear hc hge hge2 hll
      go_enter Tryd.func16, Tryd.ntmps16
      go_wp2
      go_quiet (fail)
      obtain ⟨wp, hwp⟩ : ∃ wp, w.drewN nq = wp := ⟨_, rfl⟩
      have BP := Lib.hid (show Below w.heap.size w wp by rw [← hwp]; exact drewN_below w nq)
      rw [hwp]
      clear hwp kx ky
      go_wp2_with fail
      refine (HCm.out wp BP.out).mono ?_
      clear HCm
      rintro e wc ⟨rfl, n2, hn2⟩
      obtain ⟨wq, hwq⟩ : ∃ wq, wc = wq := ⟨_, rfl⟩
      have BQ := Lib.hid (show Below w.heap.size w wq by rw [← hwq, hn2]; exact BP.out.trans ((drewN_below wp n2).mono BP.out.size))
      rw [hwq]
      clear hwq hn2
      go_upto_region 1 with (fail)
      have hRd : Rd gy gx ny (.slice Ay dy.length cy) (.slice Ax dx.length cx) wq := ⟨(HAy.out.below BQ.out HAy.out.lt), nx, (HAx.out.below BQ.out HAx.out.lt)⟩
      have RD0 := Lib.hid (hRd.below (drew_below wq))
      have hwd : Nonempty (Wd (Rd gy gx ny (.slice Ay dy.length cy) (.slice Ax dx.length cx))) := Wd.some hRd
      have kq0 : ∀ x : Wd (Rd gy gx ny (.slice Ay dy.length cy) (.slice Ax dx.length cx)), x.val.cell? ⟨gy, 0, none⟩ = some (.bool ny) := fun x => x.property.1.cell 0
      have kq1 : ∀ x : Wd (Rd gy gx ny (.slice Ay dy.length cy) (.slice Ax dx.length cx)), x.val.cell? ⟨gy, 1, none⟩ = some (.slice Ay dy.length cy) := fun x => x.property.1.cell 1
      have kq2 : ∀ x : Wd (Rd gy gx ny (.slice Ay dy.length cy) (.slice Ax dx.length cx)), x.val.cell? ⟨gx, 1, none⟩ = some (.slice Ax dx.length cx) := fun x => by obtain ⟨b, h⟩ := x.property.2; exact h.cell 1
      have BQ1 := Lib.hid (BQ.out.trans ((drew_below wq).mono BQ.out.size))
      have HC := Lib.hid (less_any Ay dy cy Ax dx cx wq.drew ((UY.out.below BQ1.out).more BQ1.out.size) ((UX.out.below BQ1.out).more BQ1.out.size) SY.out SX.out (by omega) HLl.out HGe.out)
      have Z1 := Lib.hid (shape_below HZ.out BQ1.out)
      clear hRd
      refine wp_region_treeB (.read 0 (.read 1 (.read 2 (.read 3 (.read 4 (.read 5 (.read 6 (.read 7 (.read 8 (.read 9 (.read 10 (.read 11 (.read 12 (.read 13 (.step 14 (.step 15 (.step 16 (.step 17 (.step 18 (.step 19 (.step 20 .done))))))))))))))))))))) 20 (fun W => ∃ x : Wd (Rd gy gx ny (.slice Ay dy.length cy) (.slice Ax dx.length cx)), W = x.val) (by kernel_rfl) (by kernel_rfl) (by decide) (fun _ _ d _ _ h => by cases d <;> exact h) (Wd.of RD0.out) ?_
      iterate 14 (refine treeB_read rfl (fun K hK => ?_); go_simp; refine hK _ ?_; clear hK K)
      clear hwd kq0 kq1 kq2
      refine treeB_step rfl rfl (fun K hK => ?_)
      go_simp
      refine HC.out.mono ?_
      clear HC
      rintro e w3 ⟨D, rfl, aD, sD, vD, lD, b3⟩
      have LD := Lib.hid lD
      clear lD
      have RD3 := Lib.hid (RD0.out.below b3)
      refine hK _ _ ⟨fun _ => Wd.of RD3.out, ?_⟩
      clear hK K
      iterate 2 (refine treeB_step rfl rfl (fun K hK => ?_); go_simp; refine hK _ _ ⟨fun _ => Wd.of RD3.out, ?_⟩; clear hK K)
      obtain ⟨bz, Az, nz, cz, az⟩ := shape_below Z1.out b3
      have kz0 : w3.cell? ⟨gz, 0, none⟩ = some (.bool bz) := az.cell 0
      have fz0 := az.frozen 0
      have az4 := az.set 0 (.bool ny)
      simp only [List.set_cons_zero] at az4
      have rd4 := RD3.out.set gz
      have u3 := us_of_arr aD
      have u4 := Us.other az u3 (k := 0) (.bool ny)
      have g4 := grown_set w3 gz 0 (.bool ny)
      refine treeB_step rfl rfl (fun K hK => ?_)
      go_simp
      refine hK _ _ ⟨fun _ => Wd.of rd4, ?_⟩
      clear hK K kz0 fz0
      have e4 : (w3.setCell ⟨gz, 0, none⟩ (.bool ny)).heap.size = w3.heap.size := by simp
      obtain ⟨w4, hw4⟩ : ∃ w4, w3.setCell ⟨gz, 0, none⟩ (.bool ny) = w4 := ⟨_, rfl⟩
      rw [hw4] at az4 rd4 g4 e4 u4 ⊢
      rw [← e4] at u4
      have RD4 := Lib.hid rd4
      iterate 2 (refine treeB_step rfl rfl (fun K hK => ?_); go_simp; refine hK _ _ ⟨fun _ => Wd.of RD4.out, ?_⟩; clear hK K)
      have kz1 : w4.cell? ⟨gz, 1, none⟩ = some (.slice Az nz cz) := az4.cell 1
      have fz1 := az4.frozen 1
      have az5 := az4.set 1 (.slice (some ⟨wq.heap.size, 0, none⟩) D.length D.length)
      simp only [List.set_cons_zero, List.set_cons_succ] at az5
      have u5 := Us.other az4 u4 (k := 1) (.slice (some ⟨wq.heap.size, 0, none⟩) D.length D.length)
      have g5 := grown_set w4 gz 1 (.slice (some ⟨wq.heap.size, 0, none⟩) D.length D.length)
      have e5 : (w4.setCell ⟨gz, 1, none⟩ (.slice (some ⟨wq.heap.size, 0, none⟩) D.length D.length)).heap.size = w4.heap.size := by simp
      refine treeB_step rfl rfl (fun K hK => ?_)
      go_simp
      refine hK _ _ ⟨fun h => absurd rfl h, ?_⟩
      clear hK K kz1 fz1
      refine treeB_done ?_
      obtain ⟨w5, hw5⟩ : ∃ w5, w4.setCell ⟨gz, 1, none⟩ (.slice (some ⟨wq.heap.size, 0, none⟩) D.length D.length) = w5 := ⟨_, rfl⟩
      change _ = _ at hw5
      rw [show (⟨gz, 1, none⟩ : Addr) = ⟨gz, 1, none⟩ from rfl] at hw5
      have hg5 := grown_trans (grown_of_below (g := gz) (BQ1.out.trans (b3.mono BQ1.out.size))) (grown_trans g4 g5)
      rw [hw5] at az5 u5 g5 e5 hg5
      have HT := Lib.hid (trim_any gz ny (some ⟨wq.heap.size, 0, none⟩) D D.length w5 az5 (by rw [e5]; exact u5) (Nat.le_refl _) sD (by have := LD.out; omega))
      have HG5 := Lib.hid hg5
      have HVal := Lib.hid (show sgn nx (dval dx) + sgn ny (dval dy) = sgn ny (dval D) by have h1 := HS.out; have h2 := HGe.out; rw [vD]; cases nx <;> cases ny <;> simp [sgn] at h1 ⊢ <;> omega)
      have HW5 := Lib.hid hw5
      clear az5 u5 g5 e5 hg5 az4 rd4 u3 u4 g4 hw4 e4 az aD sD vD b3 RD3 RD4 hw5
      go_upto_region 6 with (fail)
      simp only [HW5.out]
      go_wp2_with fail
      refine HT.out.mono ?_
      clear HT
      rintro e w6 ⟨rfl, hI, hg⟩
      go_wp2
      go_ret
      exact ⟨rfl, ⟨_, _, hI, by rw [sgn_trim]; exact HVal.out, trim_ne _ _⟩, grown_trans HG5.out hg⟩
end Go.Proofs.YtfngomlknhappaaDoor.BigAddW

/-
  The document's own whole numbers: Sub, Sign. Conditions: in each statement.
-/
namespace Go.Proofs.YtfngomlknhappaaDoor.BigSubW
open Go.RowKit BytesW CellsW WordsW ArrW BigW BigNewW BigMulW BigM BigCmpW BigSetNW BigNegW BigAddW

theorem intV_below {w w' : World} {g : Nat} {x : Int} (h : IntV w g x) (hb : Below w.heap.size w w') : IntV w' g x := by
  obtain ⟨n, d, hi, e, hn⟩ := h
  exact ⟨n, d, intAt_below hi hb, e, hn⟩
theorem intV_keep {w w' : World} {g gz : Nat} {x : Int} (h : IntV w g x) (hz : Shape w gz) (hg : w.grownBy w' (some gz)) (hne : g ≠ gz) : IntV w' g x := by
  obtain ⟨n, d, hi, e, hn⟩ := h
  obtain ⟨b, A, m, c, hz⟩ := hz
  exact ⟨n, d, intAt_keep hi hz hg hne, e, hn⟩
theorem intV_shape {w : World} {g : Nat} {x : Int} (h : IntV w g x) : Shape w g := by
  obtain ⟨n, d, hi, e, hn⟩ := h
  exact intAt_shape hi
theorem intV_lt {w : World} {g : Nat} {x : Int} (h : IntV w g x) : g < w.heap.size := by
  obtain ⟨b, A, n, c, ha⟩ := intV_shape h
  exact ha.lt
theorem zero_shape (w : World) : Shape (w.alloc zeroObj) w.heap.size := ⟨_, _, _, _, zero_arr w⟩
theorem zero_below (w : World) : Below w.heap.size w (w.alloc zeroObj) := (Below.refl _ w).alloc (Nat.le_refl _) _

set_option maxHeartbeats 4000000 in
set_option maxRecDepth 100000 in
theorem sub_any (gz gx gy : Nat) (x y : Int) (w : World) (hz : Shape w gz) (hx : IntV w gx x) (hy : IntV w gy y) (bx : x.natAbs < BIG) (by' : y.natAbs < BIG) :
    Calls Tryd.prog 17 #[.pointer (some ⟨gz, 0, none⟩), .pointer (some ⟨gx, 0, none⟩), .pointer (some ⟨gy, 0, none⟩)] w fun e w' => e = .returned (.pointer (some ⟨gz, 0, none⟩)) ∧ IntV w' gz (x - y) ∧ w.grownBy w' (some gz) := by
  have HN := Lib.hid (neg_any w.heap.size gy y (w.alloc zeroObj) (zero_shape w) (intV_below hy (zero_below w)) by')
  have HX := Lib.hid hx
  have HZ := Lib.hid hz
  have HB := Lib.hid (zero_below w)
  have BX := Lib.hid bx
  have BY := Lib.hid by'
  have hsz : (w.alloc zeroObj).heap.size = w.heap.size + 1 := by simp
  have HS := Lib.hid hsz
  unfold zeroObj at HN HB HS
  clear hx hy hz bx by' hsz
  go_enter Tryd.func17, Tryd.ntmps17
  go_wp2_with fail
  refine HN.out.mono ?_
  clear HN
  rintro e w2 ⟨rfl, hi, hg⟩
  have hb2 : Below w.heap.size w w2 := HB.out.trans (below_of_grown hg (Nat.le_refl _) (by rw [HS.out]; omega))
  have HA := Lib.hid (add_any gz gx w.heap.size x (-y) w2 (shape_below HZ.out hb2) (intV_below HX.out hb2) hi BX.out (by rw [Int.natAbs_neg]; exact BY.out))
  have HB2 := Lib.hid hb2
  clear hi hg hb2
  go_wp2_with fail
  refine HA.out.mono ?_
  clear HA
  rintro e w3 ⟨rfl, hi, hg⟩
  go_wp2
  go_ret
  exact ⟨rfl, hi, grown_trans (grown_of_below HB2.out) hg⟩

set_option maxHeartbeats 4000000 in
set_option maxRecDepth 100000 in
theorem sign_any (gx : Nat) (x : Int) (w : World) (hx : IntV w gx x) :
    Calls Tryd.prog 21 #[.pointer (some ⟨gx, 0, none⟩)] w fun e w' => e = .returned (.int .i64 (if x = 0 then 0 else if x < 0 then -1 else 1)) ∧ Below w.heap.size w w' := by
  obtain ⟨nx, dx, hix, rfl, hnx⟩ := hx
  have hp := dval_pos hix.2.2
  obtain ⟨A, c, ha⟩ := intAt_arr hix
  have k0 : w.cell? ⟨gx, 0, none⟩ = some (.bool nx) := ha.cell 0
  have k1 : w.cell? ⟨gx, 1, none⟩ = some (.slice A dx.length c) := ha.cell 1
  clear hix ha
  by_cases h0 : dx = []
  · subst h0
    have hs : sgn nx (dval []) = 0 := by cases nx <;> rfl
    rw [hs, if_pos rfl]
    have k1 : w.cell? ⟨gx, 1, none⟩ = some (.slice A 0 c) := k1
    clear hp hnx hs
    go_enter Tryd.func21, Tryd.ntmps21
    go_wp2
    go_ret
    exact ⟨rfl, Below.refl _ _⟩
  · have hv := hp h0
    have hl : 0 < dx.length := List.length_pos_iff.2 h0
    have t0 : ((dx.length : Int) == 0) = false := by rw [beq_eq_false_iff_ne]; omega
    have t0' : (dx.length == 0) = false := by rw [beq_eq_false_iff_ne]; omega
    cases nx with
    | true =>
      have e : (if sgn true (dval dx) = 0 then (0 : Int) else if sgn true (dval dx) < 0 then -1 else 1) = -1 := by
        have h : sgn true (dval dx) = -(dval dx : Int) := rfl
        rw [h, if_neg (by omega), if_pos (by omega)]
      rw [e]
      clear hp hnx hv hl h0 e
      go_enter Tryd.func21, Tryd.ntmps21
      go_wp2
      go_ret
      exact ⟨rfl, Below.refl _ _⟩
    | false =>
      have e : (if sgn false (dval dx) = 0 then (0 : Int) else if sgn false (dval dx) < 0 then -1 else 1) = 1 := by
        have h : sgn false (dval dx) = (dval dx : Int) := rfl
        rw [h, if_neg (by omega), if_neg (by omega)]
      rw [e]
      clear hp hnx hv hl h0 e
      go_enter Tryd.func21, Tryd.ntmps21
      go_wp2
      go_ret
      exact ⟨rfl, Below.refl _ _⟩
end Go.Proofs.YtfngomlknhappaaDoor.BigSubW
