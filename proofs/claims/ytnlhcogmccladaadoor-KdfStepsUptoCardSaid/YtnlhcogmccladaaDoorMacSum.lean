/-
  mac.Sum: what it hands back. Conditions: in each statement.
-/
import Derived.Test.YtnlhcogmccladaaDoorMacAfter
import Derived.Test.YtnlhcogmccladaaDoorKc
import Derived.Test.YtnlhcogmccladaaDoorKd
namespace Go.Proofs.YtnlhcogmccladaaDoor.MacSumW
open Go.RowKit BytesW CellsW WordsW ArrW HashM HashX HashMath HashCompW HashFinW HashRightW HashSumW HashMoreW MacM MacFnW RowsW DigsW

/-- What mac's functions ask of the tables. -/
def Tabs (w : World) : Prop := TabR w
theorem Tabs.below {w w' : World} (h : Tabs w) (hb : Below w.heap.size w w') : Tabs w' := TabR.below h hb

/-- What the program's Sum answers, at any size. -/
def hm (l m : List UInt8) : List UInt8 := hafter (outer l) (hafter (inner l) m)
theorem hm_len (l m : List UInt8) : (hm l m).length = 32 := hafter_len _ _
theorem hm_key {k m : List UInt8} (h : kb k = kb m) (b : List UInt8) : hm k b = hm m b := by
  unfold hm inner outer
  rw [h]
theorem hm_small (l m : List UInt8) (h : m.length ≤ 1099511627712) : hm l m = hmac l m := by
  unfold hm hmac hafter
  rw [if_pos h, if_pos (by rw [sum_len]; decide)]

set_option maxHeartbeats 8000000 in
set_option maxRecDepth 100000 in
theorem msum_big (A : Option Addr) (l : List UInt8) (c : Nat) (B : Option Addr) (m : List UInt8) (d : Nat) (w : World) (hA : Bs w w.heap.size A l) (hc : l.length ≤ c) (hB : Bs w w.heap.size B m) (hd : m.length ≤ d) (hl : l.length ≤ 140737488351232) (hT : Tabs w) :
    Calls Tryd.prog 20 #[.slice A l.length c, .slice B m.length d] w fun e w' => e = .returned (.agg (Lib.byteCells (hm l m)).toArray) ∧ Below w.heap.size w w' := by
  have HT := Lib.hid hT
  have HA := Lib.hid hA
  have HB := Lib.hid hB
  obtain ⟨D, hD⟩ : ∃ D, hm l m = D := ⟨_, rfl⟩
  have HDl := Lib.hid (show D.length = 32 by rw [← hD]; exact hm_len _ _)
  have N32 := Lib.hid (show (Lib.byteCells D).length = 32 by rw [Lib.byteCells_length]; exact HDl.out)
  obtain ⟨I, hI⟩ : ∃ I, hafter (inner l) m = I := ⟨_, rfl⟩
  have HIl := Lib.hid (show I.length = 32 by rw [← hI]; exact hafter_len _ _)
  have NI := Lib.hid (show (Lib.byteCells I).length = 32 by rw [Lib.byteCells_length]; exact HIl.out)
  have HI := Lib.hid hI
  have HO := Lib.hid (show hafter (outer l) I = D by rw [← hI, ← hD]; rfl)
  have NK := Lib.hid (show (Lib.byteCells (kb l)).length = 64 by rw [Lib.byteCells_length]; exact kb_len l)
  rw [hD]
  clear hT hA hB hD hI
  go_enter Tryd.func20, Tryd.ntmps20
  go_upto_region 1 with (fail)
  generalize hW : World.alloc _ _ = W
  obtain ⟨H0, hbw, hsz⟩ := start1 hW
  clear hW
  have a4 : Arr W w.heap.size 27 (Lib.byteCells (List.replicate 32 0)) := H0
  have A4 := Lib.hid a4
  have X0 := Lib.hid hbw
  clear a4 H0 hbw hsz
  go_wp2_with fail
  refine (fill_any A l c W ((HA.out.below X0.out).more X0.out.size) hc (by omega) (HT.out.below X0.out)).mono ?_
  rintro e w1 ⟨rfl, b1⟩
  have A41 := Lib.hid (A4.out.below b1 A4.out.lt)
  have X1 := Lib.hid (X0.out.trans (b1.mono X0.out.size))
  clear b1
  go_upto_region 2 with (refine Arr.storeL (Arr.new w1 _ _) rfl 50 (.tmp 5) (.tmp 8) rfl rfl (Lib.byteCells (kb l)) rfl a64_size (by rfl) NK.out (bytes_one _) ?_)
  generalize hw2 : World.setRow _ _ _ = w2
  obtain ⟨p5, b2, z2⟩ := filled hw2
  have P5 := Lib.hid p5
  have A42 := Lib.hid (A41.out.below b2 A41.out.lt)
  have X2 := Lib.hid (X1.out.trans (b2.mono X1.out.size))
  obtain ⟨g5, hg5⟩ : ∃ g, w1.heap.size = g := ⟨_, rfl⟩
  have H54 := Lib.hid (show w.heap.size ≠ g5 by rw [← hg5]; have := A41.out.lt; omega)
  rw [hg5] at P5 ⊢
  clear b2 hw2 p5 hg5 z2
  have hma : Calls Tryd.prog 30 #[.agg (Lib.byteCells (kb l)).toArray, .int .u8 54] w2 fun e w' => e = .returned (.agg (Lib.byteCells (inner l)).toArray) ∧ Below w2.heap.size w2 w' := mask_any (kb l) 54 w2 (kb_len l)
  have HMa := Lib.hid hma
  clear hma
  go_wp2_with (refine Arr.loadL P5.out rfl 50 (.tmp 5) rfl rfl a64 rfl a64_size NK.out ?_)
  refine HMa.out.mono ?_
  clear HMa
  rintro e w3 ⟨rfl, b3⟩
  have P53 := Lib.hid (P5.out.below b3 P5.out.lt)
  have A43 := Lib.hid (A42.out.below b3 A42.out.lt)
  have X3 := Lib.hid (X2.out.trans (b3.mono X2.out.size))
  clear b3
  have haf := after_any (inner l) B m d w3 (inner_len l) ((HB.out.below X3.out).more X3.out.size) hd (HT.out.below X3.out)
  rw [HI.out] at haf
  have HAf := Lib.hid haf
  clear haf
  go_wp2_with fail
  refine HAf.out.mono ?_
  clear HAf
  rintro e w4 ⟨rfl, b4⟩
  have P54 := Lib.hid (P53.out.below b4 P53.out.lt)
  have A44 := Lib.hid (A43.out.below b4 A43.out.lt)
  have X4 := Lib.hid (X3.out.trans (b4.mono X3.out.size))
  clear b4
  go_upto_region 3 with (refine Arr.storeL (Arr.new w4 _ _) rfl 27 (.tmp 6) (.tmp 12) rfl rfl (Lib.byteCells I) rfl dig_size (by rfl) NI.out (bytes_one _) ?_)
  generalize hw5 : World.setRow _ _ _ = w5
  obtain ⟨p6, b5, z5⟩ := filled hw5
  have P6 := Lib.hid p6
  have P55 := Lib.hid (P54.out.below b5 P54.out.lt)
  have A45 := Lib.hid (A44.out.below b5 A44.out.lt)
  have X5 := Lib.hid (X4.out.trans (b5.mono X4.out.size))
  obtain ⟨g6, hg6⟩ : ∃ g, w4.heap.size = g := ⟨_, rfl⟩
  rw [hg6] at P6 ⊢
  clear b5 hw5 p6 hg6 z5
  have hne : Nonempty (Ck (fun V => Arr V g5 50 (Lib.byteCells (kb l)))) := ⟨⟨w5, P55.out⟩⟩
  have HS : Hid (∀ V, Arr V g5 50 (Lib.byteCells (kb l)) → ∃ x : Ck (fun V => Arr V g5 50 (Lib.byteCells (kb l))), V = x.val) := Lib.hid (fun V h => ⟨⟨V, h⟩, rfl⟩)
  have x0 := (Below.refl w5.heap.size w5).drew
  obtain ⟨V0, hV0⟩ : ∃ x, w5.drew = x := ⟨_, rfl⟩
  refine wp_region_tree (.read 0 (.read 2 (.step 1 (.step 3 (.step 4 .done))))) (fun V => ∃ x : Ck (fun V => Arr V g5 50 (Lib.byteCells (kb l))), V = x.val) (by kernel_rfl) (by kernel_rfl) (by decide) (fun _ _ d _ _ h => by cases d <;> exact h) (HS.out _ P55.out.drew) ?_
  rw [hV0] at x0 ⊢
  clear hV0
  have q0 := P55.out.below x0 P55.out.lt
  have y0 := X5.out.trans (x0.mono X5.out.size)
  refine tree_read rfl (fun K hK => want rfl ⟨_, fun W hW => Arr.loadPartE (zs := []) (by rw [List.append_nil]; obtain ⟨x, rfl⟩ := hW; exact x.property) 50 (.tmp 5) rfl rfl a64 rfl a64_size NK.out, hK _ ?_⟩)
  clear hK K
  refine tree_read rfl (fun K hK => ?_)
  go_simp
  refine hK _ ?_
  clear hK K
  have hma : Calls Tryd.prog 30 #[.agg (Lib.byteCells (kb l)).toArray, .int .u8 92] V0 fun e w' => e = .returned (.agg (Lib.byteCells (outer l)).toArray) ∧ Below V0.heap.size V0 w' := mask_any (kb l) 92 V0 (kb_len l)
  have HMa := Lib.hid hma
  clear hma
  refine tree_step rfl (HS.out _ q0) (fun K hK => ?_)
  go_simp
  refine HMa.out.mono ?_
  clear HMa
  rintro e V1 ⟨rfl, b1⟩
  have x1 := x0.trans (b1.mono x0.size)
  have y1 := X5.out.trans (x1.mono X5.out.size)
  have q1 := P55.out.below x1 P55.out.lt
  refine hK _ _ ⟨HS.out _ q1, ?_⟩
  clear hK K b1
  have haf := after_any (outer l) (some ⟨g6, 0, none⟩) I 32 V1 (outer_len l) (arr_bs (P6.out.below x1 P6.out.lt) (Nat.lt_of_lt_of_le P6.out.lt x1.size)) (by rw [HIl.out]; exact Nat.le_refl _) (HT.out.below y1)
  rw [HO.out, HIl.out] at haf
  have HAf := Lib.hid haf
  clear haf
  refine tree_step rfl (HS.out _ q1) (fun K hK => ?_)
  go_simp
  refine HAf.out.mono ?_
  clear HAf
  rintro e V2 ⟨rfl, b2⟩
  have x2 := x1.trans (b2.mono x1.size)
  have y2 := X5.out.trans (x2.mono X5.out.size)
  have q2 := P55.out.below x2 P55.out.lt
  refine hK _ _ ⟨HS.out _ q2, ?_⟩
  clear hK K b2
  have r2 := A45.out.below x2 A45.out.lt
  refine tree_step rfl (HS.out _ q2) (fun K hK => want rfl ?_)
  refine Arr.storeO r2 27 (.tmp 4) (.tmp 16) rfl rfl (Lib.byteCells D) rfl dig_size (by rfl) N32.out (bytes_one _) ?_
  have AF := Lib.hid (r2.row (Lib.byteCells D))
  have HBF := Lib.hid (below_row y2 (Nat.le_refl _) (Lib.byteCells D).toArray)
  refine hK _ _ ⟨HS.out _ (q2.rowOther w.heap.size _ (fun e => H54.out e.symm)), ?_⟩
  clear hK K
  refine tree_done ?_
  go_wp2
  refine bodyPost_ret (v := .agg (Lib.byteCells D).toArray) (by exact AF.out.ret rfl _ rfl dig rfl dig_size N32.out) rfl ⟨rfl, HBF.out⟩

theorem msum_any (A : Option Addr) (l : List UInt8) (c : Nat) (B : Option Addr) (m : List UInt8) (d : Nat) (w : World) (hA : Bs w w.heap.size A l) (hc : l.length ≤ c) (hB : Bs w w.heap.size B m) (hd : m.length ≤ d) (hl : l.length ≤ 140737488351232) (_hm : m.length ≤ 140737488351232) (hT : Tabs w) :
    Calls Tryd.prog 20 #[.slice A l.length c, .slice B m.length d] w fun e w' => e = .returned (.agg (Lib.byteCells (hm l m)).toArray) ∧ Below w.heap.size w w' :=
  msum_big A l c B m d w hA hc hB hd hl hT
end Go.Proofs.YtnlhcogmccladaaDoor.MacSumW
