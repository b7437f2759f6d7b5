/-
  hash.More: what it hands back. Conditions: in each statement.
-/
import Derived.Test.YtnlhcogmccladaaDoorHashEndF
import Derived.Test.YtnlhcogmccladaaDoorHashSum
import Derived.Test.YtnlhcogmccladaaDoorKd
import Derived.Test.YtnlhcogmccladaaDoorSConcat
import Derived.Test.YtnlhcogmccladaaDoorBClone
namespace Go.Proofs.YtnlhcogmccladaaDoor.HashMoreW
open Go.RowKit BytesW CellsW WordsW ArrW HashM HashX HashMath HashCompW HashProcW HashDigW HashFinW HashRightW HashSumW RowsW SConcatW BCloneW

/-- What More answers: the state, the length, the rest, the fault. -/
def moreM (S : List Nat) (long : Int) (r b : List UInt8) : List Nat × Int × List UInt8 × Int :=
  if okH long r.length = true then (if 1099511627776 - long < (b.length : Int) then (List.replicate 8 0, 0, [], 4) else (run S (r ++ b), long + b.length, over (r ++ b), 0)) else (List.replicate 8 0, 0, [], 1)
theorem zero_hash : (hc (List.replicate 8 0) 0 (.slice none 0 0)) = [.int .u32 0, .int .u32 0, .int .u32 0, .int .u32 0, .int .u32 0, .int .u32 0, .int .u32 0, .int .u32 0, .int .i64 0, .slice none 0 0] := rfl
theorem row_blk {B : Nat} {w : World} {A : Option Addr} {n c : Nat} {l : List UInt8} (h : Row B w (.slice A n c) l) : ∀ ad, A = some ad → B ≤ ad.block ∧ ad.block < w.heap.size := by
  intro ad e
  subst e
  rcases h.2 with ⟨e, _⟩ | ⟨g, cap, cur, e, hb, hg, _⟩
  · cases e
  · cases e
    exact ⟨hb, (Array.getElem?_eq_some_iff.1 hg).1⟩
theorem bs_keep {w w' : World} {g : Nat} {A : Option Addr} {l : List UInt8} (h : Bs w w.heap.size A l) (hg : w.grownBy w' (some g)) (hne : ∀ ad, A = some ad → ad.block ≠ g) : Bs w' w'.heap.size A l := by
  intro h0
  obtain ⟨ad, e, hlt, hcl⟩ := h h0
  exact ⟨ad, e, Nat.lt_of_lt_of_le hlt hg.size, fun k hk => (World.cell?_of_block (hg.block _ (by rw [add_block]; exact hlt) (by rw [add_block]; intro q; cases q; exact hne ad e rfl))).trans (hcl k hk)⟩

/-- The worlds that meet T. -/
def Ck (T : World → Prop) : Type := {W : World // T W}
def Ck.val {T : World → Prop} (x : Ck T) : World := Subtype.val x
theorem Ck.property {T : World → Prop} (x : Ck T) : T x.val := Subtype.property x
theorem build_hash (S : List Nat) (long : Int) (A : Option Addr) (n c : Nat) (h : S.length = 8) (w : World) : (Instr.build 61 #[(0, .agg (wc S).toArray), (1, .int .i64 long), (2, .slice A n c)]).run Tryd.prog w = .ok (.agg (hc S long (.slice A n c)).toArray) w := by
  obtain ⟨a, b, c, d, e, f, g, i, rfl⟩ := eight8 h
  kernel_rfl
theorem build_E (S : List Nat) (long : Int) (A : Option Addr) (n c : Nat) (h : S.length = 8) {o : Oper} {a : Act} (x y z : Operand) (ho : o.op = .build 61 #[(0, x), (1, y), (2, z)])
    (hx : a.eval x = .agg (wc S).toArray) (hy : a.eval y = .int .i64 long) (hz : a.eval z = .slice A n c) (w : World) : (execOp a.eval o).run Tryd.prog w = .ok (.value (.agg (hc S long (.slice A n c)).toArray)) w := by
  unfold execOp
  simp only [ho, List.map_toArray, List.map_cons, List.map_nil, hx, hy, hz, Sem.run_bind, build_hash S long A n c h w, Sem.run_pure, Result.andThen_ok]
def MorePost (m : List Nat × Int × List UInt8 × Int) (w : World) (e : Ending) (w' : World) : Prop :=
  ∃ A' c', e = .returned (.tuple #[.agg (hc m.1 m.2.1 (.slice A' m.2.2.1.length c')).toArray, .int .i64 m.2.2.2]) ∧ m.2.2.1.length ≤ c' ∧ Bs w' w'.heap.size A' m.2.2.1 ∧ Below w.heap.size w w'

set_option maxHeartbeats 8000000 in
set_option maxRecDepth 100000 in
theorem more_any (S : List Nat) (hS : Sm S) (long : Int) (A : Option Addr) (r : List UInt8) (c : Nat) (B : Option Addr) (b : List UInt8) (d : Nat) (w : World)
    (hA : Bs w w.heap.size A r) (hcr : r.length ≤ c) (hB : Bs w w.heap.size B b) (hdb : b.length ≤ d) (h1 : -9223372036854775808 ≤ long) (h2 : long < 9223372036854775808) (hT : TabR w) :
    Calls Tryd.prog 36 #[.agg (hc S long (.slice A r.length c)).toArray, .slice B b.length d] w fun e w' => MorePost (moreM S long r b) w e w' := by
  obtain ⟨fs, u27⟩ := hash_struct
  have HT := Lib.hid hT
  have HA := Lib.hid hA
  have HBb := Lib.hid hB
  have U27 := Lib.hid u27
  have N10 := Lib.hid (hc_len S long (.slice A r.length c) hS.1)
  clear hT hA hB u27
  go_enter Tryd.func36, Tryd.ntmps36
  go_upto_region 1 with (fail)
  generalize hW : World.alloc _ _ = W
  obtain ⟨H0, H1, hbw, hsz⟩ := start2 hW
  clear hW
  have a0 : Arr W w.heap.size 61 (hc S long (.slice A r.length c)) := H0
  have a1 : Arr W (w.heap.size + 1) 61 (hc (List.replicate 8 0) 0 (.slice none 0 0)) := H1
  have A0 := Lib.hid a0
  have A1 := Lib.hid a1
  have HB := Lib.hid hbw
  have HSZ := Lib.hid hsz
  have HR := Lib.hid (right_any S hS long A r.length c W h1 h2)
  clear H0 H1 a0 a1 hbw hsz
  go_wp2_with (refine Arr.loadL A0.out rfl 61 (.tmp 2) rfl rfl U27.out rfl hash_size N10.out ?_)
  refine HR.out.mono ?_
  clear HR
  rintro e w1 ⟨rfl, hb1⟩
  have A01 := Lib.hid (A0.out.below hb1 (by have := HSZ.out; omega))
  have A11 := Lib.hid (A1.out.below hb1 (by have := HSZ.out; omega))
  have HB1 := Lib.hid (HB.out.trans (hb1.mono (by have := HSZ.out; omega)))
  have HSZ1 := Lib.hid (show w.heap.size + 2 ≤ w1.heap.size by have := HSZ.out; have := hb1.size; omega)
  have NZ := Lib.hid (show (hc (List.replicate 8 0) 0 (.slice none 0 0)).length = 10 from rfl)
  have OZ := Lib.hid (hc_one (List.replicate 8 0) 0 none 0 0)
  clear hb1 A0 A1 HB HSZ
  by_cases hok : okH long r.length = true
  · obtain ⟨L, rfl, hL, hrL⟩ := okH_nat hok
    have c8 := A01.out.cell 8
    rw [hc_8 S _ _ hS.1] at c8
    have c9 := A01.out.cell 9
    rw [hc_9 S _ _ hS.1] at c9
    rw [hok]
    by_cases hbig : 1099511627776 - (L : Int) < (b.length : Int)
    · have HE := Lib.hid (show moreM S (L : Int) r b = (List.replicate 8 0, 0, [], 4) by unfold moreM; rw [if_pos hok, if_pos hbig])
      have ct : decide ((b.length : Int) > 1099511627776 - (L : Int)) = true := decide_eq_true hbig
      have AF := Lib.hid (A11.out.row (hc (List.replicate 8 0) 0 (.slice none 0 0)))
      have HBF := Lib.hid (below_row HB1.out (show w.heap.size ≤ w.heap.size + 1 by omega) (hc (List.replicate 8 0) 0 (.slice none 0 0)).toArray)
      clear hok
      go_wp2_with (refine Arr.storeL A11.out rfl 61 (.tmp 4) (.tmp 19) rfl rfl (hc (List.replicate 8 0) 0 (.slice none 0 0)) rfl hash_size NZ.out NZ.out OZ.out ?_)
      refine bodyPost_ret (v := .tuple #[.agg (hc (List.replicate 8 0) 0 (.slice none 0 0)).toArray, .int .i64 4]) (by exact AF.out.ret2 rfl _ rfl rfl U27.out rfl hash_size NZ.out) rfl ?_
      rw [HE.out]
      exact ⟨none, 0, rfl, Nat.le_refl _, Bs.nil _ _ _, HBF.out⟩
    · have ct : decide ((b.length : Int) > 1099511627776 - (L : Int)) = false := decide_eq_false (by omega)
      have HE := Lib.hid (show moreM S (L : Int) r b = (run S (r ++ b), (L : Int) + b.length, over (r ++ b), 0) by unfold moreM; rw [if_pos hok, if_neg hbig])
      have hbl : b.length ≤ 1099511627776 := by omega
      have hrl : r.length < 64 := by omega
      clear hok hrL hbig
      go_upto_region 6 with (fail)
      obtain ⟨k, hk, hkb, hkr, hkf⟩ : ∃ k : Nat, (if 64 - (r.length : Int) < (b.length : Int) then 64 - (r.length : Int) else (b.length : Int)) = (k : Int) ∧ k ≤ b.length ∧ r.length + k ≤ 64 ∧ (k < b.length → r.length + k = 64) := by
        by_cases h : 64 - (r.length : Int) < (b.length : Int)
        · exact ⟨64 - r.length, by rw [if_pos h]; omega, by omega, by omega, by omega⟩
        · exact ⟨b.length, by rw [if_neg h], by omega, by omega, by omega⟩
      rw [hk]
      clear hk ct
      have AP : Hid (Arr w1 w.heap.size 61 (wc S ++ [.int .i64 (L : Int), .slice A r.length c])) := Lib.hid A01.out
      have N8 := Lib.hid (show (wc S).length = 8 by rw [wc_length]; exact hS.1)
      rename_i Kend hKend
      have H : ∀ (g : Nat) (A' : Option Addr) (c' : Nat) (m : List UInt8) (S1 : List Nat) (W6 : World) (u9 u10 u11 u12 u13 u14 u15 u16 u17 u18 u19 u20 u21 u22 u23 u24 u25 u26 u27 u28 u29 u30 u31 u32 u33 u34 u35 u36 u37 u38 u39 u40 u41 u42 u43 u44 u45 u46 u47 u48 u49 u50 u51 u52 u53 u54 u55 u56 u57 u58 u59 u60 : Value), m = over (r ++ b.take k) → S1 = run S (r ++ b.take k) → Arr W6 g 59 (wc S1) → w1.heap.size ≤ g → Below w1.heap.size w1 W6 → m.length ≤ c' → Bs W6 W6.heap.size A' m →
          Kend { tmps := #[.agg (hc S (L : Int) (.slice A r.length c)).toArray, .slice B b.length d, .pointer (some ⟨w.heap.size, 0, none⟩), undef, .pointer (some ⟨w.heap.size + 1, 0, none⟩), .int .i64 0, .int .i64 (k : Int), .pointer (some ⟨g, 0, none⟩), .slice A' m.length c', u9, u10, u11, u12, u13, u14, u15, u16, u17, u18, u19, u20, u21, u22, u23, u24, u25, u26, u27, u28, u29, u30, u31, u32, u33, u34, u35, u36, u37, u38, u39, u40, u41, u42, u43, u44, u45, u46, u47, u48, u49, u50, u51, u52, u53, u54, u55, u56, u57, u58, u59, u60], defers := [] } W6 := by
        intro g A' c' m S1 W6 u9 u10 u11 u12 u13 u14 u15 u16 u17 u18 u19 u20 u21 u22 u23 u24 u25 u26 u27 u28 u29 u30 u31 u32 u33 u34 u35 u36 u37 u38 u39 u40 u41 u42 u43 u44 u45 u46 u47 u48 u49 u50 u51 u52 u53 u54 u55 u56 u57 u58 u59 u60 hm hS1 aW hg hbW hc' hbs
        refine hKend _ _ ?_
        dsimp only
        go_upto_region 7 with (fail)
        rename_i Kc hKc K9 hK9
        have HM := Lib.hid hm
        have HS1 := Lib.hid hS1
        have AW := Lib.hid aW
        have HBs := Lib.hid hbs
        clear hm hS1 aW hbs
        have H9 : ∀ (A2 : Option Addr) (c2 : Nat) (m2 : List UInt8) (S2 : List Nat) (W8 : World) (x9 x10 x11 x12 x13 x14 x15 x16 x17 x18 x19 x20 x21 x22 x23 x24 x25 x26 x27 x28 x29 x30 x31 x32 x33 x34 x35 x36 x37 x38 x39 x40 x41 x42 x43 x44 x45 x46 x47 x48 x49 x50 x51 x52 x53 x54 x55 x56 x57 x58 x59 x60 : Value), m2 = over (r ++ b) → S2 = run S (r ++ b) → Arr W8 g 59 (wc S2) → Below w1.heap.size w1 W8 → m2.length ≤ c2 → Bs W8 W8.heap.size A2 m2 →
            Kc { tmps := #[.agg (hc S (L : Int) (.slice A r.length c)).toArray, .slice B b.length d, .pointer (some ⟨w.heap.size, 0, none⟩), undef, .pointer (some ⟨w.heap.size + 1, 0, none⟩), .int .i64 0, .int .i64 (k : Int), .pointer (some ⟨g, 0, none⟩), .slice A2 m2.length c2, x9, x10, x11, x12, x13, x14, x15, x16, x17, x18, x19, x20, x21, x22, x23, x24, x25, x26, x27, x28, x29, x30, x31, x32, x33, x34, x35, x36, x37, x38, x39, x40, x41, x42, x43, x44, x45, x46, x47, x48, x49, x50, x51, x52, x53, x54, x55, x56, x57, x58, x59, x60], defers := [] } W8 := by
          intro A2 c2 m2 S2 W8 x9 x10 x11 x12 x13 x14 x15 x16 x17 x18 x19 x20 x21 x22 x23 x24 x25 x26 x27 x28 x29 x30 x31 x32 x33 x34 x35 x36 x37 x38 x39 x40 x41 x42 x43 x44 x45 x46 x47 x48 x49 x50 x51 x52 x53 x54 x55 x56 x57 x58 x59 x60 hm2 hS2 aW8 hbW8 hc2 hbs2
          have HM2 := Lib.hid hm2
          have HS2 := Lib.hid hS2
          have AW8 := Lib.hid aW8
          have HBs2 := Lib.hid hbs2
          clear hm2 hS2 aW8 hbs2
          refine hKc _ _ ?_
          dsimp only
          go_upto_region 9 with (fail)
          have AP8 := Lib.hid (AW8.out.drew)
          have N82 := Lib.hid (show (wc S2).length = 8 by rw [wc_length, HS2.out]; exact (sm_run _ S hS).1)
          have hml : m2.length < 64 := by rw [HM2.out]; exact over_lt _
          have c88 := (hbW8.cell (p := ⟨w.heap.size, 8, none⟩) (by show w.heap.size < w1.heap.size; have := HSZ1.out; omega)).trans c8
          have C8 : ∀ x : Ck (fun W => Arr W g 59 (wc S2) ∧ W.cell? ⟨w.heap.size, 8, none⟩ = some (.int .i64 (L : Int))), x.val.cell? ⟨w.heap.size, 8, none⟩ = some (.int .i64 (L : Int)) := fun x => x.property.2
          have hne : Nonempty (Ck (fun W => Arr W g 59 (wc S2) ∧ W.cell? ⟨w.heap.size, 8, none⟩ = some (.int .i64 (L : Int)))) := ⟨⟨W8, AW8.out, c88⟩⟩
          have HS8 : Hid (∀ V, Below W8.heap.size W8 V → ∃ x : Ck (fun W => Arr W g 59 (wc S2) ∧ W.cell? ⟨w.heap.size, 8, none⟩ = some (.int .i64 (L : Int))), V = x.val) := Lib.hid (fun V hV => ⟨⟨V, AW8.out.below hV AW8.out.lt, (hV.cell (by show w.heap.size < W8.heap.size; have := HSZ1.out; have := hbW8.size; omega)).trans c88⟩, rfl⟩)
          clear c88
          have A18 := Lib.hid (A11.out.below hbW8 (by have := HSZ1.out; omega))
          have HCl := Lib.hid (fun (V : World) (hV : Below W8.heap.size W8 V) => clone_any A2 m2 c2 V ((HBs2.out.below hV).more hV.size) (by omega))
          have x0 := (Below.refl W8.heap.size W8).drew
          obtain ⟨V0, hV0⟩ : ∃ x, W8.drew = x := ⟨_, rfl⟩
          rw [hV0] at x0
          refine wp_region_tree (.read 0 (.read 1 (.read 2 (.read 3 (.read 4 (.read 5 (.read 6 (.step 7 (.read 8 (.step 9 (.read 10 .done))))))))))) (fun W => ∃ x : Ck (fun W => Arr W g 59 (wc S2) ∧ W.cell? ⟨w.heap.size, 8, none⟩ = some (.int .i64 (L : Int))), W = x.val) (by kernel_rfl) (by kernel_rfl) (by decide) (fun _ _ d _ _ h => by cases d <;> exact h) (HS8.out _ (Below.refl _ _).drew) ?_
          rw [hV0]
          clear hV0
          rename_i Kr hKr
          have hsum : IntKind.i64.wrap ((L : Int) + (b.length : Int)) = (L : Int) + (b.length : Int) := IntWalk.i64_in _ (by omega)
          refine tree_read rfl (fun K hK => want rfl ⟨_, fun W hW => Arr.loadPartE (zs := []) (by rw [List.append_nil]; obtain ⟨x, rfl⟩ := hW; exact x.property.1) 59 (.tmp 7) rfl rfl arr8 rfl arr8_size N82.out, hK _ ?_⟩)
          clear hK K
          refine tree_read rfl (fun K hK => ?_)
          go_simp
          refine hK _ ?_
          clear hK K
          refine tree_read rfl (fun K hK => ?_)
          go_simp
          refine hK _ ?_
          clear hK K
          refine tree_read rfl (fun K hK => ?_)
          go_simp
          refine hK _ ?_
          clear hK K
          refine tree_read rfl (fun K hK => ?_)
          go_simp
          refine hK _ ?_
          clear hK K
          refine tree_read rfl (fun K hK => ?_)
          go_simp
          refine hK _ ?_
          clear hK K
          refine tree_read rfl (fun K hK => ?_)
          go_simp
          refine hK _ ?_
          clear hK K
          refine tree_step rfl (HS8.out _ x0) (fun K hK => ?_)
          go_simp
          refine (HCl.out V0 x0).mono ?_
          rintro e V1 ⟨v1, rfl, r1, b1⟩
          obtain ⟨A3, c3, rfl, s3, hc3⟩ := r1.form2
          have x1 := x0.trans (b1.mono x0.size)
          have K3 := Lib.hid (row_blk r1)
          have S3 := Lib.hid s3
          refine hK _ _ ⟨HS8.out _ x1, ?_⟩
          clear hK K s3 r1
          refine tree_read rfl (fun K hK => want rfl ⟨_, fun W _ => build_E S2 ((L : Int) + b.length) A3 m2.length c3 (by rw [HS2.out]; exact (sm_run _ S hS).1) (.tmp 52) (.tmp 57) (.tmp 59) rfl rfl rfl rfl W, hK _ ?_⟩)
          clear hK K
          refine tree_step rfl (HS8.out _ x1) (fun K hK => want rfl ?_)
          have A19 := Lib.hid ((A18.out.below x1 (by have := HSZ1.out; have := hbW8.size; omega)))
          have N10r := Lib.hid (hc_len S2 ((L : Int) + b.length) (.slice A3 m2.length c3) (by rw [HS2.out]; exact (sm_run _ S hS).1))
          refine Arr.storeO A19.out 61 (.tmp 4) (.tmp 60) rfl rfl (hc S2 ((L : Int) + b.length) (.slice A3 m2.length c3)) rfl hash_size NZ.out N10r.out (hc_one _ _ _ _ _) ?_
          have AF := Lib.hid (A19.out.row (hc S2 ((L : Int) + b.length) (.slice A3 m2.length c3)))
          have HW1 := HB1.out.size
          have HW8 := hbW8.size
          have XF := Lib.hid (below_row (HB1.out.trans ((hbW8.trans (x1.mono HW8)).mono HW1)) (show w.heap.size ≤ w.heap.size + 1 by omega) (hc S2 ((L : Int) + b.length) (.slice A3 m2.length c3)).toArray)
          have SF := Lib.hid (bs_keep S3.out (grown_row V1 (w.heap.size + 1) (hc S2 ((L : Int) + b.length) (.slice A3 m2.length c3)).toArray) (fun ad e => by have := (K3.out ad e).1; have := x0.size; have := HSZ1.out; omega))
          obtain ⟨VF, hVF⟩ : ∃ x, V1.setRow (w.heap.size + 1) (hc S2 ((L : Int) + b.length) (.slice A3 m2.length c3)).toArray = x := ⟨_, rfl⟩
          have AG := (AW8.out.below x1 AW8.out.lt).rowOther (w.heap.size + 1) (hc S2 ((L : Int) + b.length) (.slice A3 m2.length c3)).toArray (by have := HSZ1.out; omega)
          obtain ⟨xc, hxc⟩ := HS8.out _ x1
          have c8F : (V1.setRow (w.heap.size + 1) (hc S2 ((L : Int) + b.length) (.slice A3 m2.length c3)).toArray).cell? ⟨w.heap.size, 8, none⟩ = some (.int .i64 (L : Int)) := (World.cell?_of_block (setRow_other V1 (w.heap.size + 1) w.heap.size _ (by omega))).trans (by rw [hxc]; exact xc.property.2)
          rw [hVF] at AG c8F
          clear xc hxc
          rw [hVF] at AF XF SF ⊢
          refine hK _ _ ⟨⟨⟨VF, AG, c8F⟩, rfl⟩, ?_⟩
          clear hK K hVF AG c8F
          refine tree_read rfl (fun K hK => ?_)
          go_simp
          refine hK _ ?_
          clear hK K
          refine tree_done ?_
          refine hKr _ _ ?_
          go_wp2
          refine bodyPost_ret (v := .tuple #[.agg (hc S2 ((L : Int) + b.length) (.slice A3 m2.length c3)).toArray, .int .i64 0]) (by exact AF.out.ret2 rfl _ rfl rfl U27.out rfl hash_size N10r.out) rfl ?_
          rw [HE.out]
          refine ⟨A3, c3, ?_, ?_, ?_, XF.out⟩
          · rw [← HM2.out, ← HS2.out]
          · rw [← HM2.out]; exact hc3
          · rw [← HM2.out]; exact SF.out
        have HH9 := Lib.hid H9
        clear H9
        by_cases hlt : k < b.length
        · have ct : decide ((k : Int) < (b.length : Int)) = true := decide_eq_true (by omega)
          have hrk := hkf hlt
          go_upto_region 8 with (fail)
          have hSm1 : Sm S1 := by rw [HS1.out]; exact sm_run _ S hS
          have N81 := Lib.hid (show (wc S1).length = 8 by rw [wc_length]; exact hSm1.1)
          have hdl : (b.drop k).length = b.length - k := List.length_drop
          have hx6 := HB1.out.trans (hbW.mono HB1.out.size)
          have hbb := ((HBb.out.below hx6).more hx6.size).cut k d hdb
          have hpr := process_any S1 hSm1 (if d = k then B else B.map (·.add k)) (b.drop k) (d - k) W6.drew hbb.drew (by rw [hdl]; omega) (HT.out.below hx6.drew)
          rw [hdl] at hpr
          have hov : over (b.drop k) = over (r ++ b) := over_two r b k hrk (by omega)
          have hrn : run S1 (b.drop k) = run S (r ++ b) := by rw [HS1.out]; exact run_two S r b k hrk (by omega)
          rw [hov, hrn] at hpr
          have HPr := Lib.hid hpr
          have HNe : Hid (∀ ad, (if d = k then B else B.map (·.add k)) = some ad → ad.block ≠ g) := Lib.hid (fun ad e => by
            obtain ⟨ad0, e0, hlt0, -⟩ := HBb.out (by omega)
            obtain ⟨ad1, e1, hb1⟩ := (Kin.refl B).cut k d ad e
            rw [e0] at e1
            cases e1
            have := HB1.out.size
            rw [hb1]
            omega)
          have HSm := Lib.hid (show Sm (run S (r ++ b)) from sm_run _ S hS)
          have N82 := Lib.hid (show (wc (run S (r ++ b))).length = 8 by rw [wc_length]; exact HSm.out.1)
          have hgl := AW.out.lt
          clear hpr hov hrn hdl hbb hx6 hSm1 hrk hlt ct
          refine Phase.wp_region_phases [([], [0, 1, 2, 3], some 4), ([5, 6, 7], [], some 8), ([9], [], none)] (fun W => W = W6.drew) (by kernel_rfl) (by kernel_rfl) (fun _ _ d _ _ h => by cases d <;> exact h) rfl ?_
          refine Phase.g_alone rfl (Phase.p_nil ?_)
          refine Phase.q_step rfl (fun K hK => want rfl ?_)
          refine Arr.loadQ (fun W (h : W = W6.drew) => by subst h; exact AW.out.drew) 59 (.tmp 7) rfl rfl arr8 rfl arr8_size N81.out ?_
          refine hK _ ?_
          clear hK K
          refine Phase.q_step rfl (fun K hK => ?_)
          go_simp
          refine hK _ ?_
          clear hK K
          refine Phase.q_step rfl (fun K hK => ?_)
          go_simp
          refine hK _ ?_
          clear hK K
          refine Phase.q_step rfl (fun K hK => ?_)
          go_simp
          refine hK _ ?_
          clear hK K
          refine Phase.q_nil ?_
          rintro _ rfl K hK
          go_simp
          refine HPr.out.mono ?_
          clear HPr
          rintro e W7 ⟨A2, c2, rfl, hc2, s2, kin, b7⟩
          refine hK _ _ ⟨fun W => W = W7, rfl, ?_⟩
          clear hK K
          have A7 := Lib.hid (AW.out.drew.below b7 hgl)
          have X7 := Lib.hid (hbW.drew.trans (b7.mono hbW.size))
          have S7 := Lib.hid ((s2.below b7).more b7.size)
          have Kn := Lib.hid kin
          clear s2 b7 kin
          refine Phase.g_alone rfl ?_
          refine Phase.p_step rfl (fun K hK => ?_)
          go_simp
          refine hK _ ?_
          clear hK K
          refine Phase.p_step rfl (fun K hK => ?_)
          go_simp
          refine hK _ ?_
          clear hK K
          refine Phase.p_step rfl (fun K hK => ?_)
          go_simp
          refine hK _ ?_
          clear hK K
          refine Phase.p_nil (Phase.q_nil ?_)
          intro wz hz K hK
          rw [show wz = W7 from hz]
          clear hz
          refine want rfl ?_
          refine Arr.storeO A7.out 59 (.tmp 7) (.tmp 50) rfl rfl (wc (run S (r ++ b))) rfl arr8_size N81.out N82.out (wc_one _) ?_
          have A8 := Lib.hid (A7.out.row (wc (run S (r ++ b))))
          have X8 := Lib.hid (below_row X7.out hg (wc (run S (r ++ b))).toArray)
          have S8 := Lib.hid (bs_keep S7.out (grown_row W7 g (wc (run S (r ++ b))).toArray) (fun ad' e' => by obtain ⟨ad, e, hb⟩ := Kn.out ad' e'; rw [hb]; exact HNe.out ad e))
          obtain ⟨W8, hW8⟩ : ∃ x, W7.setRow g (wc (run S (r ++ b))).toArray = x := ⟨_, rfl⟩
          rw [hW8] at A8 X8 S8 ⊢
          refine hK _ _ ⟨fun W => W = W8, rfl, ?_⟩
          clear hK K
          refine Phase.g_quiet ?_
          refine Phase.p_step rfl (fun K hK => ?_)
          go_simp
          refine hK _ ?_
          clear hK K
          refine Phase.p_nil (Phase.q_nil ?_)
          refine Phase.g_nil ?_
          intro wz hz
          rw [show wz = W8 from hz]
          clear hz
          exact HH9.out A2 c2 (over (r ++ b)) (run S (r ++ b)) W8 _ _ _ _ _ _ _ _ _ _ _ _ _ _ _ _ _ _ _ _ _ _ _ _ _ _ _ _ _ _ _ _ _ _ _ _ _ _ _ _ _ _ _ _ _ _ _ _ _ _ _ _ rfl rfl A8.out X8.out hc2 S8.out
        · have ct : decide ((k : Int) < (b.length : Int)) = false := decide_eq_false (by omega)
          have hk0 : k = b.length := by omega
          have hbk : b.take k = b := by rw [hk0, List.take_length]
          have HM' := Lib.hid (show m = over (r ++ b) by rw [HM.out, hbk])
          have HS' := Lib.hid (show S1 = run S (r ++ b) by rw [HS1.out, hbk])
          clear hKc hk0 hbk
          go_wp2
          exact HH9.out A' c' m S1 W6 _ _ _ _ _ _ _ _ _ _ _ _ _ _ _ _ _ _ _ _ _ _ _ _ _ _ _ _ _ _ _ _ _ _ _ _ _ _ _ _ _ _ _ _ _ _ _ _ _ _ _ _ HM'.out HS'.out AW.out hbW hc' HBs.out
      have hp : (r ++ b.take k).length = r.length + k := by rw [List.length_append, List.length_take]; omega
      obtain ⟨p, hpe⟩ : ∃ p, r ++ b.take k = p := ⟨_, rfl⟩
      have HCon : Hid (∀ (V : World) (ad : Addr), Ms V V.heap.size (some ad) [r, b.take k] → Calls Tryd.prog 16 #[.slice (some ad) 2 2] V fun e w' => ∃ A2 c2, e = .returned (.slice A2 p.length c2) ∧ p.length ≤ c2 ∧ Bs w' w'.heap.size A2 p ∧ (∀ ad, A2 = some ad → V.heap.size ≤ ad.block ∧ ad.block < w'.heap.size) ∧ Below V.heap.size V w') := by
        refine Lib.hid (fun V ad hm => (concat_any (some ad) [r, b.take k] 2 V hm (by simp [tot]; omega) (by simp)).mono ?_)
        rintro e w' ⟨v, rfl, rr, hb'⟩
        obtain ⟨A2, c2, rfl, s2, hc2⟩ := rr.form2
        simp only [List.flatten_cons, List.flatten_nil, List.append_nil, hpe] at s2 hc2 ⊢
        exact ⟨A2, c2, rfl, hc2, s2, row_blk rr, hb'⟩
      rw [hpe] at hp H
      have HPl := Lib.hid hp
      clear hp
      have HTK := Lib.hid (HT.out.below HB1.out)
      have HA1 := Lib.hid ((HA.out.below HB1.out).more HB1.out.size)
      have HB1b := Lib.hid (((HBb.out.below HB1.out).more HB1.out.size).take k)
      have hms : ∀ (V : World), Below w1.heap.size w1 V → Ms (V.alloc (.cells #[.slice A r.length c, .slice B k d] 22)) (V.heap.size + 1) (some ⟨V.heap.size, 0, none⟩) [r, b.take k] := fun V hV => by
        have e : (b.take k).length = k := by rw [List.length_take]; omega
        exact Ms.laid2 V A B r (b.take k) r.length k c d rfl e.symm ((HA1.out.below hV).more hV.size) ((HB1b.out.below hV).more hV.size) hcr (by omega) (0, 0) (V.heap.size + 1) (Nat.lt_succ_self _)
      have HMs := Lib.hid hms
      have HH := Lib.hid H
      have C9 : ∀ x : Ab w1, x.val.cell? ⟨w.heap.size, 9, none⟩ = some (.slice A r.length c) := fun x => (x.property.cell (by show w.heap.size < w1.heap.size; have := HSZ1.out; omega)).trans c9
      have hne := ab w1
      have hkd : k ≤ d := by omega
      clear hms H c8 c9 hpe
      refine wp_region_tree (.read 0 (.read 1 (.read 2 (.read 3 (.read 4 (.read 5 (.read 6 (.fork 7 (.fork 8 (.fork 9 (.read 10 (.read 11 (.read 12 (.step 13 (.step 14 (.read 15 .done)))))) 13 (.step 9 (.read 10 (.read 11 (.read 12 (.step 14 (.read 15 .done))))))) 13 (.step 8 (.step 9 (.read 10 (.read 11 (.read 12 (.step 14 (.read 15 .done)))))))) 13 (.step 7 (.step 8 (.step 9 (.read 10 (.read 11 (.read 12 (.step 14 (.read 15 .done)))))))))))))))) (fun W => ∃ x : Ab w1, W = x.val) (by kernel_rfl) (by kernel_rfl) (by decide) (fun _ _ d _ _ h => by cases d <;> exact h) (Cl.of (Below.refl _ _).drew) ?_
      have x0 := (Below.refl w1.heap.size w1).drew
      obtain ⟨V0, hV0⟩ : ∃ x, w1.drew = x := ⟨_, rfl⟩
      rw [hV0] at x0 ⊢
      clear hV0
      refine tree_read rfl (fun K hK => ?_)
      go_simp
      refine hK _ ?_
      clear hK K
      refine tree_read rfl (fun K hK => want rfl ⟨_, fun W hW => Arr.loadPartE (AP.out.below (Cl.below hW) (by have := HSZ1.out; omega)) 59 (.tmp 28) rfl rfl arr8 rfl arr8_size N8.out, hK _ ?_⟩)
      clear hK K
      refine tree_read rfl (fun K hK => ?_)
      go_simp
      refine hK _ ?_
      clear hK K
      refine tree_read rfl (fun K hK => ?_)
      go_simp
      refine hK _ ?_
      clear hK K
      refine tree_read rfl (fun K hK => ?_)
      go_simp
      refine hK _ ?_
      clear hK K
      refine tree_read rfl (fun K hK => ?_)
      go_simp
      refine hK _ ?_
      clear hK K
      refine tree_read rfl (fun K hK => ?_)
      go_simp
      refine hK _ ?_
      clear hK K
      have N8r := Lib.hid (show (wc (run S p)).length = 8 by rw [wc_length]; exact (sm_run p S hS).1)
      refine tree_fork rfl rfl (Cl.of x0) (fun K hK => ?_) (fun K hK => ?_)
      · go_simp
        have m7 := HMs.out V0 x0
        have b7 := (Below.refl V0.heap.size V0).alloc (Nat.le_refl _) (.cells #[.slice A r.length c, .slice B k d] 22)
        obtain ⟨V7, hV7⟩ : ∃ X, V0.alloc (.cells #[.slice A r.length c, .slice B k d] 22) = X := ⟨_, rfl⟩
        rw [hV7] at m7 b7 ⊢
        have x7 := x0.trans (b7.mono x0.size)
        have n7 : V0.heap.size + 1 ≤ V7.heap.size := by rw [← hV7]; simp
        refine hK _ _ ⟨Cl.of x7, ?_⟩
        have M7 := Lib.hid m7
        clear hK K hV7 m7
        refine tree_fork rfl rfl (Cl.of x7) (fun K hK => ?_) (fun K hK => ?_)
        · go_simp
          refine (HCon.out V7 _ (M7.out.more n7)).mono ?_
          rintro e V8 ⟨A2, c2, rfl, hc2, s2, k2, b8⟩
          have x8 := x7.trans (b8.mono x7.size)
          have S2 := Lib.hid s2
          have K2 := Lib.hid k2
          clear s2 k2
          refine hK _ _ ⟨Cl.of x8, ?_⟩
          clear hK K
          have Z8 := Lib.hid (Nat.le_refl V8.heap.size)
          refine tree_fork rfl rfl (Cl.of x8) (fun K hK => ?_) (fun K hK => ?_)
          · have hpr := process_any S hS A2 p c2 V8 S2.out hc2 (HTK.out.below x8)
            have HPr := Lib.hid hpr
            clear hpr
            go_simp
            refine HPr.out.mono ?_
            clear HPr
            rintro e V9 ⟨A', c', rfl, hc', s', kin, b9⟩
            have x9 := x8.trans (b9.mono x8.size)
            have T9 := Lib.hid ((s'.below b9).more b9.size)
            have Kn := Lib.hid kin
            clear s' kin
            refine hK _ _ ⟨Cl.of x9, ?_⟩
            clear hK K
            have Z8 := Lib.hid b9.size
            refine tree_read rfl (fun K hK => ?_)
            go_simp
            refine hK _ ?_
            clear hK K
            refine tree_read rfl (fun K hK => ?_)
            go_simp
            refine hK _ ?_
            clear hK K
            refine tree_read rfl (fun K hK => ?_)
            go_simp
            refine hK _ ?_
            clear hK K
            refine tree_step rfl (Cl.of x9) (fun K hK => ?_)
            go_simp
            generalize hV13 : World.alloc V9 _ = V13
            obtain ⟨a13', b13, -⟩ := start1 hV13
            have a13 : Arr V13 V9.heap.size 59 (wc (List.replicate 8 0)) := a13'
            have x13 := x9.trans (b13.mono x9.size)
            have hg := x9.size
            obtain ⟨gA, hgA⟩ : ∃ g, V9.heap.size = g := ⟨_, rfl⟩
            rw [hgA] at a13 hg ⊢
            refine hK _ _ ⟨Cl.of x13, ?_⟩
            have A_13 := Lib.hid a13
            clear hK K hV13 a13' a13
            have T13 := Lib.hid ((T9.out.below b13).more b13.size)
            have Off : Hid (∀ ad, A2 = some ad → ad.block ≠ gA) := Lib.hid fun ad e => by have := (K2.out ad e).2; have := Z8.out; omega
            refine tree_step rfl (Cl.of x13) (fun K hK => want rfl ?_)
            refine Arr.storeO A_13.out 59 (.tmp 7) (.tmp 38) rfl rfl (wc (run S p)) rfl arr8_size (by rfl) N8r.out (wc_one _) ?_
            have a14 := (A_13.out).row (wc (run S p))
            have x14 := below_row x13 hg (wc (run S p)).toArray
            have b14 := grown_row V13 gA (wc (run S p)).toArray
            have t14 := bs_keep T13.out b14 (fun ad' e' => by obtain ⟨ad, e, hb⟩ := Kn.out ad' e'; rw [hb]; exact Off.out ad e)
            refine hK _ _ ⟨Cl.of x14, ?_⟩
            clear hK K
            refine tree_read rfl (fun K hK => ?_)
            go_simp
            refine hK _ ?_
            clear hK K
            refine tree_done ?_
            exact HH.out gA A' c' (over p) (run S p) _ _ _ _ _ _ _ _ _ _ _ _ _ _ _ _ _ _ _ _ _ _ _ _ _ _ _ _ _ _ _ _ _ _ _ _ _ _ _ _ _ _ _ _ _ _ _ _ _ _ _ _ _ rfl rfl a14 hg x14 hc' t14
          · go_simp
            generalize hV13 : World.alloc V8 _ = V13
            obtain ⟨a13', b13, -⟩ := start1 hV13
            have a13 : Arr V13 V8.heap.size 59 (wc (List.replicate 8 0)) := a13'
            have x13 := x8.trans (b13.mono x8.size)
            have hg := x8.size
            obtain ⟨gA, hgA⟩ : ∃ g, V8.heap.size = g := ⟨_, rfl⟩
            rw [hgA] at a13 hg ⊢
            refine hK _ _ ⟨Cl.of x13, ?_⟩
            have A_13 := Lib.hid a13
            clear hK K hV13 a13' a13
            have S13 := Lib.hid ((S2.out.below b13).more b13.size)
            have Off : Hid (∀ ad, A2 = some ad → ad.block ≠ gA) := Lib.hid fun ad e => by have := (K2.out ad e).2; have := Z8.out; omega
            refine tree_step rfl (Cl.of x13) (fun K hK => ?_)
            have hpr := process_any S hS A2 p c2 V13 S13.out hc2 (HTK.out.below x13)
            have HPr := Lib.hid hpr
            clear hpr
            go_simp
            refine HPr.out.mono ?_
            clear HPr
            rintro e V9 ⟨A', c', rfl, hc', s', kin, b9⟩
            have x9 := x13.trans (b9.mono x13.size)
            have T9 := Lib.hid ((s'.below b9).more b9.size)
            have Kn := Lib.hid kin
            clear s' kin
            refine hK _ _ ⟨Cl.of x9, ?_⟩
            clear hK K
            have A_9 := Lib.hid (A_13.out.below b9 A_13.out.lt)
            refine tree_read rfl (fun K hK => ?_)
            go_simp
            refine hK _ ?_
            clear hK K
            refine tree_read rfl (fun K hK => ?_)
            go_simp
            refine hK _ ?_
            clear hK K
            refine tree_read rfl (fun K hK => ?_)
            go_simp
            refine hK _ ?_
            clear hK K
            refine tree_step rfl (Cl.of x9) (fun K hK => want rfl ?_)
            refine Arr.storeO A_9.out 59 (.tmp 7) (.tmp 38) rfl rfl (wc (run S p)) rfl arr8_size (by rfl) N8r.out (wc_one _) ?_
            have a14 := (A_9.out).row (wc (run S p))
            have x14 := below_row x9 hg (wc (run S p)).toArray
            have b14 := grown_row V9 gA (wc (run S p)).toArray
            have t14 := bs_keep T9.out b14 (fun ad' e' => by obtain ⟨ad, e, hb⟩ := Kn.out ad' e'; rw [hb]; exact Off.out ad e)
            refine hK _ _ ⟨Cl.of x14, ?_⟩
            clear hK K
            refine tree_read rfl (fun K hK => ?_)
            go_simp
            refine hK _ ?_
            clear hK K
            refine tree_done ?_
            exact HH.out gA A' c' (over p) (run S p) _ _ _ _ _ _ _ _ _ _ _ _ _ _ _ _ _ _ _ _ _ _ _ _ _ _ _ _ _ _ _ _ _ _ _ _ _ _ _ _ _ _ _ _ _ _ _ _ _ _ _ _ _ rfl rfl a14 hg x14 hc' t14
        · go_simp
          generalize hV13 : World.alloc V7 _ = V13
          obtain ⟨a13', b13, -⟩ := start1 hV13
          have a13 : Arr V13 V7.heap.size 59 (wc (List.replicate 8 0)) := a13'
          have x13 := x7.trans (b13.mono x7.size)
          have hg := x7.size
          obtain ⟨gA, hgA⟩ : ∃ g, V7.heap.size = g := ⟨_, rfl⟩
          rw [hgA] at a13 hg ⊢
          refine hK _ _ ⟨Cl.of x13, ?_⟩
          have A_13 := Lib.hid a13
          clear hK K hV13 a13' a13
          have M13 := Lib.hid (((M7.out.more n7).below b13).more b13.size)
          refine tree_step rfl (Cl.of x13) (fun K hK => ?_)
          go_simp
          refine (HCon.out V13 _ M13.out).mono ?_
          rintro e V8 ⟨A2, c2, rfl, hc2, s2, k2, b8⟩
          have x8 := x13.trans (b8.mono x13.size)
          have S2 := Lib.hid s2
          have K2 := Lib.hid k2
          clear s2 k2
          refine hK _ _ ⟨Cl.of x8, ?_⟩
          clear hK K
          have Off : Hid (∀ ad, A2 = some ad → ad.block ≠ gA) := Lib.hid fun ad e => by have := (K2.out ad e).1; have := A_13.out.lt; omega
          have A_8 := Lib.hid (A_13.out.below b8 A_13.out.lt)
          refine tree_step rfl (Cl.of x8) (fun K hK => ?_)
          have hpr := process_any S hS A2 p c2 V8 S2.out hc2 (HTK.out.below x8)
          have HPr := Lib.hid hpr
          clear hpr
          go_simp
          refine HPr.out.mono ?_
          clear HPr
          rintro e V9 ⟨A', c', rfl, hc', s', kin, b9⟩
          have x9 := x8.trans (b9.mono x8.size)
          have T9 := Lib.hid ((s'.below b9).more b9.size)
          have Kn := Lib.hid kin
          clear s' kin
          refine hK _ _ ⟨Cl.of x9, ?_⟩
          clear hK K
          have A_9 := Lib.hid (A_8.out.below b9 A_8.out.lt)
          refine tree_read rfl (fun K hK => ?_)
          go_simp
          refine hK _ ?_
          clear hK K
          refine tree_read rfl (fun K hK => ?_)
          go_simp
          refine hK _ ?_
          clear hK K
          refine tree_read rfl (fun K hK => ?_)
          go_simp
          refine hK _ ?_
          clear hK K
          refine tree_step rfl (Cl.of x9) (fun K hK => want rfl ?_)
          refine Arr.storeO A_9.out 59 (.tmp 7) (.tmp 38) rfl rfl (wc (run S p)) rfl arr8_size (by rfl) N8r.out (wc_one _) ?_
          have a14 := (A_9.out).row (wc (run S p))
          have x14 := below_row x9 hg (wc (run S p)).toArray
          have b14 := grown_row V9 gA (wc (run S p)).toArray
          have t14 := bs_keep T9.out b14 (fun ad' e' => by obtain ⟨ad, e, hb⟩ := Kn.out ad' e'; rw [hb]; exact Off.out ad e)
          refine hK _ _ ⟨Cl.of x14, ?_⟩
          clear hK K
          refine tree_read rfl (fun K hK => ?_)
          go_simp
          refine hK _ ?_
          clear hK K
          refine tree_done ?_
          exact HH.out gA A' c' (over p) (run S p) _ _ _ _ _ _ _ _ _ _ _ _ _ _ _ _ _ _ _ _ _ _ _ _ _ _ _ _ _ _ _ _ _ _ _ _ _ _ _ _ _ _ _ _ _ _ _ _ _ _ _ _ _ rfl rfl a14 hg x14 hc' t14
      · go_simp
        generalize hV13 : World.alloc V0 _ = V13
        obtain ⟨a13', b13, -⟩ := start1 hV13
        have a13 : Arr V13 V0.heap.size 59 (wc (List.replicate 8 0)) := a13'
        have x13 := x0.trans (b13.mono x0.size)
        have hg := x0.size
        obtain ⟨gA, hgA⟩ : ∃ g, V0.heap.size = g := ⟨_, rfl⟩
        rw [hgA] at a13 hg ⊢
        refine hK _ _ ⟨Cl.of x13, ?_⟩
        have A_13 := Lib.hid a13
        clear hK K hV13 a13' a13
        refine tree_step rfl (Cl.of x13) (fun K hK => ?_)
        go_simp
        have m7 := HMs.out V13 x13
        have b7 := (Below.refl V13.heap.size V13).alloc (Nat.le_refl _) (.cells #[.slice A r.length c, .slice B k d] 22)
        obtain ⟨V7, hV7⟩ : ∃ X, V13.alloc (.cells #[.slice A r.length c, .slice B k d] 22) = X := ⟨_, rfl⟩
        rw [hV7] at m7 b7 ⊢
        have x7 := x13.trans (b7.mono x13.size)
        have n7 : V13.heap.size + 1 ≤ V7.heap.size := by rw [← hV7]; simp
        refine hK _ _ ⟨Cl.of x7, ?_⟩
        have M7 := Lib.hid m7
        clear hK K hV7 m7
        have A_7 := Lib.hid (A_13.out.below b7 A_13.out.lt)
        refine tree_step rfl (Cl.of x7) (fun K hK => ?_)
        go_simp
        refine (HCon.out V7 _ (M7.out.more n7)).mono ?_
        rintro e V8 ⟨A2, c2, rfl, hc2, s2, k2, b8⟩
        have x8 := x7.trans (b8.mono x7.size)
        have S2 := Lib.hid s2
        have K2 := Lib.hid k2
        clear s2 k2
        refine hK _ _ ⟨Cl.of x8, ?_⟩
        clear hK K
        have Off : Hid (∀ ad, A2 = some ad → ad.block ≠ gA) := Lib.hid fun ad e => by have := (K2.out ad e).1; have := A_7.out.lt; omega
        have A_8 := Lib.hid (A_7.out.below b8 A_7.out.lt)
        refine tree_step rfl (Cl.of x8) (fun K hK => ?_)
        have hpr := process_any S hS A2 p c2 V8 S2.out hc2 (HTK.out.below x8)
        have HPr := Lib.hid hpr
        clear hpr
        go_simp
        refine HPr.out.mono ?_
        clear HPr
        rintro e V9 ⟨A', c', rfl, hc', s', kin, b9⟩
        have x9 := x8.trans (b9.mono x8.size)
        have T9 := Lib.hid ((s'.below b9).more b9.size)
        have Kn := Lib.hid kin
        clear s' kin
        refine hK _ _ ⟨Cl.of x9, ?_⟩
        clear hK K
        have A_9 := Lib.hid (A_8.out.below b9 A_8.out.lt)
        refine tree_read rfl (fun K hK => ?_)
        go_simp
        refine hK _ ?_
        clear hK K
        refine tree_read rfl (fun K hK => ?_)
        go_simp
        refine hK _ ?_
        clear hK K
        refine tree_read rfl (fun K hK => ?_)
        go_simp
        refine hK _ ?_
        clear hK K
        refine tree_step rfl (Cl.of x9) (fun K hK => want rfl ?_)
        refine Arr.storeO A_9.out 59 (.tmp 7) (.tmp 38) rfl rfl (wc (run S p)) rfl arr8_size (by rfl) N8r.out (wc_one _) ?_
        have a14 := (A_9.out).row (wc (run S p))
        have x14 := below_row x9 hg (wc (run S p)).toArray
        have b14 := grown_row V9 gA (wc (run S p)).toArray
        have t14 := bs_keep T9.out b14 (fun ad' e' => by obtain ⟨ad, e, hb⟩ := Kn.out ad' e'; rw [hb]; exact Off.out ad e)
        refine hK _ _ ⟨Cl.of x14, ?_⟩
        clear hK K
        refine tree_read rfl (fun K hK => ?_)
        go_simp
        refine hK _ ?_
        clear hK K
        refine tree_done ?_
        exact HH.out gA A' c' (over p) (run S p) _ _ _ _ _ _ _ _ _ _ _ _ _ _ _ _ _ _ _ _ _ _ _ _ _ _ _ _ _ _ _ _ _ _ _ _ _ _ _ _ _ _ _ _ _ _ _ _ _ _ _ _ _ rfl rfl a14 hg x14 hc' t14
  · have hok' : okH long r.length = false := by simpa using hok
    have HE := Lib.hid (show moreM S long r b = (List.replicate 8 0, 0, [], 1) by unfold moreM; rw [if_neg hok])
    have AF := Lib.hid (A11.out.row (hc (List.replicate 8 0) 0 (.slice none 0 0)))
    have HBF := Lib.hid (below_row HB1.out (show w.heap.size ≤ w.heap.size + 1 by omega) (hc (List.replicate 8 0) 0 (.slice none 0 0)).toArray)
    rw [hok']
    clear hok hok'
    go_wp2_with (refine Arr.storeL A11.out rfl 61 (.tmp 4) (.tmp 12) rfl rfl (hc (List.replicate 8 0) 0 (.slice none 0 0)) rfl hash_size NZ.out NZ.out OZ.out ?_)
    refine bodyPost_ret (v := .tuple #[.agg (hc (List.replicate 8 0) 0 (.slice none 0 0)).toArray, .int .i64 1]) (by exact AF.out.ret2 rfl _ rfl rfl U27.out rfl hash_size NZ.out) rfl ?_
    rw [HE.out]
    exact ⟨none, 0, rfl, Nat.le_refl _, Bs.nil _ _ _, HBF.out⟩
end Go.Proofs.YtnlhcogmccladaaDoor.HashMoreW
