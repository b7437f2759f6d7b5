/-
  mac.Sum, Check, Chain: what they hand back. Conditions: in each statement.
-/
import Derived.Test.YtehlolklbdbhkaaDoorMacAfter
import Derived.Test.YtehlolklbdbhkaaDoorTextSameW
import Derived.Test.YtehlolklbdbhkaaDoorKc
import Derived.Test.YtehlolklbdbhkaaDoorKd
namespace Go.Proofs.YtehlolklbdbhkaaDoor.MacSumW
open Go.RowKit BytesW CellsW WordsW ArrW HashM HashX HashMath HashCompW HashFinW HashRightW HashSumW HashMoreW MacM MacFnW RowsW DigsW

/-- What mac's functions ask of the tables. -/
def Tabs (w : World) : Prop := TabR w
theorem Tabs.below {w w' : World} (h : Tabs w) (hb : Below w.heap.size w w') : Tabs w' := TabR.below h hb

/-- What the program's Sum answers, at any size. -/
def hm (l m : List UInt8) : List UInt8 := hafter (outer l) (hafter (inner l) m)
theorem hm_len (l m : List UInt8) : (hm l m).length = 32 := hafter_len _ _
theorem hm_key {k m : List UInt8} (h : kb k = kb m) (b : List UInt8) : hm k b = hm m b := by
  unfold hm inner outer
  rw [h]
theorem hm_small (l m : List UInt8) (h : m.length ≤ 1099511627712) : hm l m = hmac l m := by
  unfold hm hmac hafter
  rw [if_pos h, if_pos (by rw [sum_len]; decide)]

set_option maxHeartbeats 8000000 in
set_option maxRecDepth 100000 in
theorem msum_any (A : Option Addr) (l : List UInt8) (c : Nat) (B : Option Addr) (m : List UInt8) (d : Nat) (w : World) (hA : Bs w w.heap.size A l) (hc : l.length ≤ c) (hB : Bs w w.heap.size B m) (hd : m.length ≤ d) (hl : l.length ≤ 140737488351232) (_hm : m.length ≤ 140737488351232) (hT : Tabs w) :
    Calls Tryd.prog 11 #[.slice A l.length c, .slice B m.length d] w fun e w' => e = .returned (.agg (Lib.byteCells (hm l m)).toArray) ∧ Below w.heap.size w w' := by
  have HT := Lib.hid hT
  have HA := Lib.hid hA
  have HB := Lib.hid hB
  obtain ⟨D, hD⟩ : ∃ D, hm l m = D := ⟨_, rfl⟩
  have HDl := Lib.hid (show D.length = 32 by rw [← hD]; exact hm_len _ _)
  have N32 := Lib.hid (show (Lib.byteCells D).length = 32 by rw [Lib.byteCells_length]; exact HDl.out)
  obtain ⟨I, hI⟩ : ∃ I, hafter (inner l) m = I := ⟨_, rfl⟩
  have HIl := Lib.hid (show I.length = 32 by rw [← hI]; exact hafter_len _ _)
  have NI := Lib.hid (show (Lib.byteCells I).length = 32 by rw [Lib.byteCells_length]; exact HIl.out)
  have HI := Lib.hid hI
  have HO := Lib.hid (show hafter (outer l) I = D by rw [← hI, ← hD]; rfl)
  have NK := Lib.hid (show (Lib.byteCells (kb l)).length = 64 by rw [Lib.byteCells_length]; exact kb_len l)
  rw [hD]
  clear hT hA hB hD hI
  go_enter Tryd.func11, Tryd.ntmps11
  go_upto_region 1 with (fail)
  generalize hW : World.alloc _ _ = W
  obtain ⟨H0, hbw, hsz⟩ := start1 hW
  clear hW
  have a4 : Arr W w.heap.size 24 (Lib.byteCells (List.replicate 32 0)) := H0
  have A4 := Lib.hid a4
  have X0 := Lib.hid hbw
  clear a4 H0 hbw hsz
  go_wp2_with fail
  refine (fill_any A l c W ((HA.out.below X0.out).more X0.out.size) hc (by omega) (HT.out.below X0.out)).mono ?_
  rintro e w1 ⟨rfl, b1⟩
  have A41 := Lib.hid (A4.out.below b1 A4.out.lt)
  have X1 := Lib.hid (X0.out.trans (b1.mono X0.out.size))
  clear b1
  go_upto_region 2 with (refine Arr.storeL (Arr.new w1 _ _) rfl 41 (.tmp 5) (.tmp 8) rfl rfl (Lib.byteCells (kb l)) rfl a64_size (by rfl) NK.out (bytes_one _) ?_)
  generalize hw2 : World.setRow _ _ _ = w2
  obtain ⟨p5, b2, z2⟩ := filled hw2
  have P5 := Lib.hid p5
  have A42 := Lib.hid (A41.out.below b2 A41.out.lt)
  have X2 := Lib.hid (X1.out.trans (b2.mono X1.out.size))
  obtain ⟨g5, hg5⟩ : ∃ g, w1.heap.size = g := ⟨_, rfl⟩
  have H54 := Lib.hid (show w.heap.size ≠ g5 by rw [← hg5]; have := A41.out.lt; omega)
  rw [hg5] at P5 ⊢
  clear b2 hw2 p5 hg5 z2
  have hma : Calls Tryd.prog 22 #[.agg (Lib.byteCells (kb l)).toArray, .int .u8 54] w2 fun e w' => e = .returned (.agg (Lib.byteCells (inner l)).toArray) ∧ Below w2.heap.size w2 w' := mask_any (kb l) 54 w2 (kb_len l)
  have HMa := Lib.hid hma
  clear hma
  go_wp2_with (refine Arr.loadL P5.out rfl 41 (.tmp 5) rfl rfl a64 rfl a64_size NK.out ?_)
  refine HMa.out.mono ?_
  clear HMa
  rintro e w3 ⟨rfl, b3⟩
  have P53 := Lib.hid (P5.out.below b3 P5.out.lt)
  have A43 := Lib.hid (A42.out.below b3 A42.out.lt)
  have X3 := Lib.hid (X2.out.trans (b3.mono X2.out.size))
  clear b3
  have haf := after_any (inner l) B m d w3 (inner_len l) ((HB.out.below X3.out).more X3.out.size) hd (HT.out.below X3.out)
  rw [HI.out] at haf
  have HAf := Lib.hid haf
  clear haf
  go_wp2_with fail
  refine HAf.out.mono ?_
  clear HAf
  rintro e w4 ⟨rfl, b4⟩
  have P54 := Lib.hid (P53.out.below b4 P53.out.lt)
  have A44 := Lib.hid (A43.out.below b4 A43.out.lt)
  have X4 := Lib.hid (X3.out.trans (b4.mono X3.out.size))
  clear b4
  go_upto_region 3 with (refine Arr.storeL (Arr.new w4 _ _) rfl 24 (.tmp 6) (.tmp 12) rfl rfl (Lib.byteCells I) rfl dig_size (by rfl) NI.out (bytes_one _) ?_)
  generalize hw5 : World.setRow _ _ _ = w5
  obtain ⟨p6, b5, z5⟩ := filled hw5
  have P6 := Lib.hid p6
  have P55 := Lib.hid (P54.out.below b5 P54.out.lt)
  have A45 := Lib.hid (A44.out.below b5 A44.out.lt)
  have X5 := Lib.hid (X4.out.trans (b5.mono X4.out.size))
  obtain ⟨g6, hg6⟩ : ∃ g, w4.heap.size = g := ⟨_, rfl⟩
  rw [hg6] at P6 ⊢
  clear b5 hw5 p6 hg6 z5
  have hne : Nonempty (Ck (fun V => Arr V g5 41 (Lib.byteCells (kb l)))) := ⟨⟨w5, P55.out⟩⟩
  have HS : Hid (∀ V, Arr V g5 41 (Lib.byteCells (kb l)) → ∃ x : Ck (fun V => Arr V g5 41 (Lib.byteCells (kb l))), V = x.val) := Lib.hid (fun V h => ⟨⟨V, h⟩, rfl⟩)
  have x0 := (Below.refl w5.heap.size w5).drew
  obtain ⟨V0, hV0⟩ : ∃ x, w5.drew = x := ⟨_, rfl⟩
  refine wp_region_tree (.read 0 (.read 2 (.step 1 (.step 3 (.step 4 .done))))) (fun V => ∃ x : Ck (fun V => Arr V g5 41 (Lib.byteCells (kb l))), V = x.val) (by kernel_rfl) (by kernel_rfl) (by decide) (fun _ _ d _ _ h => by cases d <;> exact h) (HS.out _ P55.out.drew) ?_
  rw [hV0] at x0 ⊢
  clear hV0
  have q0 := P55.out.below x0 P55.out.lt
  have y0 := X5.out.trans (x0.mono X5.out.size)
  refine tree_read rfl (fun K hK => want rfl ⟨_, fun W hW => Arr.loadPartE (zs := []) (by rw [List.append_nil]; obtain ⟨x, rfl⟩ := hW; exact x.property) 41 (.tmp 5) rfl rfl a64 rfl a64_size NK.out, hK _ ?_⟩)
  clear hK K
  refine tree_read rfl (fun K hK => ?_)
  go_simp
  refine hK _ ?_
  clear hK K
  have hma : Calls Tryd.prog 22 #[.agg (Lib.byteCells (kb l)).toArray, .int .u8 92] V0 fun e w' => e = .returned (.agg (Lib.byteCells (outer l)).toArray) ∧ Below V0.heap.size V0 w' := mask_any (kb l) 92 V0 (kb_len l)
  have HMa := Lib.hid hma
  clear hma
  refine tree_step rfl (HS.out _ q0) (fun K hK => ?_)
  go_simp
  refine HMa.out.mono ?_
  clear HMa
  rintro e V1 ⟨rfl, b1⟩
  have x1 := x0.trans (b1.mono x0.size)
  have y1 := X5.out.trans (x1.mono X5.out.size)
  have q1 := P55.out.below x1 P55.out.lt
  refine hK _ _ ⟨HS.out _ q1, ?_⟩
  clear hK K b1
  have haf := after_any (outer l) (some ⟨g6, 0, none⟩) I 32 V1 (outer_len l) (arr_bs (P6.out.below x1 P6.out.lt) (Nat.lt_of_lt_of_le P6.out.lt x1.size)) (by rw [HIl.out]; exact Nat.le_refl _) (HT.out.below y1)
  rw [HO.out, HIl.out] at haf
  have HAf := Lib.hid haf
  clear haf
  refine tree_step rfl (HS.out _ q1) (fun K hK => ?_)
  go_simp
  refine HAf.out.mono ?_
  clear HAf
  rintro e V2 ⟨rfl, b2⟩
  have x2 := x1.trans (b2.mono x1.size)
  have y2 := X5.out.trans (x2.mono X5.out.size)
  have q2 := P55.out.below x2 P55.out.lt
  refine hK _ _ ⟨HS.out _ q2, ?_⟩
  clear hK K b2
  have r2 := A45.out.below x2 A45.out.lt
  refine tree_step rfl (HS.out _ q2) (fun K hK => want rfl ?_)
  refine Arr.storeO r2 24 (.tmp 4) (.tmp 16) rfl rfl (Lib.byteCells D) rfl dig_size (by rfl) N32.out (bytes_one _) ?_
  have AF := Lib.hid (r2.row (Lib.byteCells D))
  have HBF := Lib.hid (below_row y2 (Nat.le_refl _) (Lib.byteCells D).toArray)
  refine hK _ _ ⟨HS.out _ (q2.rowOther w.heap.size _ (fun e => H54.out e.symm)), ?_⟩
  clear hK K
  refine tree_done ?_
  go_wp2
  refine bodyPost_ret (v := .agg (Lib.byteCells D).toArray) (by exact AF.out.ret rfl _ rfl dig rfl dig_size N32.out) rfl ⟨rfl, HBF.out⟩

/-- What the program's Check answers. -/
def checkM (l m s : List UInt8) : Bool × Nat := if s.length < 16 then (false, 8) else if 32 < s.length then (false, 1) else (decide ((hm l m).take s.length = s), 0)

set_option maxHeartbeats 4000000 in
set_option maxRecDepth 100000 in
theorem mcheck_any (A : Option Addr) (l : List UInt8) (c : Nat) (B : Option Addr) (m : List UInt8) (d : Nat) (C : Option Addr) (s : List UInt8) (k : Nat) (w : World) (hA : Bs w w.heap.size A l) (hc : l.length ≤ c) (hB : Bs w w.heap.size B m) (hd : m.length ≤ d) (hC : Bs w w.heap.size C s) (_hk : s.length ≤ k) (hl : l.length ≤ 140737488351232) (hm' : m.length ≤ 140737488351232) (_hs : s.length ≤ 140737488351232) (hT : Tabs w) :
    Calls Tryd.prog 10 #[.slice A l.length c, .slice B m.length d, .slice C s.length k] w fun e w' => e = .returned (.tuple #[.bool (checkM l m s).1, .int .i64 ((checkM l m s).2 : Int)]) ∧ Below w.heap.size w w' := by
  have HT := Lib.hid hT
  have HA := Lib.hid hA
  have HB := Lib.hid hB
  have HC := Lib.hid hC
  clear hT hA hB hC
  unfold checkM
  go_enter Tryd.func10, Tryd.ntmps10
  by_cases h16 : s.length < 16
  · have ct : decide ((s.length : Int) < 16) = true := decide_eq_true (by omega)
    rw [if_pos h16]
    go_wp2
    go_ret2
    exact ⟨rfl, Below.refl _ _⟩
  · have ct : decide ((s.length : Int) < 16) = false := decide_eq_false (by omega)
    rw [if_neg h16]
    by_cases h32 : 32 < s.length
    · have ct2 : decide ((s.length : Int) > 32) = true := decide_eq_true (by omega)
      rw [if_pos h32]
      go_wp2
      go_ret2
      exact ⟨rfl, Below.refl _ _⟩
    · have ct2 : decide ((s.length : Int) > 32) = false := decide_eq_false (by omega)
      rw [if_neg h32]
      obtain ⟨D, hD⟩ : ∃ D, hm l m = D := ⟨_, rfl⟩
      have HDl := Lib.hid (show D.length = 32 by rw [← hD]; exact hm_len _ _)
      have N32 := Lib.hid (show (Lib.byteCells D).length = 32 by rw [Lib.byteCells_length]; exact HDl.out)
      have hsu := msum_any A l c B m d w HA.out hc HB.out hd hl hm' HT.out
      rw [hD] at hsu ⊢
      have HSu := Lib.hid hsu
      clear hsu hD
      go_wp2_with fail
      refine HSu.out.mono ?_
      clear HSu
      rintro e w1 ⟨rfl, b1⟩
      have X1 := Lib.hid b1
      clear b1
      go_upto_region 6 with (refine Arr.storeL (Arr.new w1 _ _) rfl 24 (.tmp 8) (.tmp 17) rfl rfl (Lib.byteCells D) rfl dig_size (by rfl) N32.out (bytes_one _) ?_)
      generalize hw2 : World.setRow _ _ _ = w2
      obtain ⟨p8, b2, z2⟩ := filled hw2
      have P8 := Lib.hid p8
      have X2 := Lib.hid (X1.out.trans (b2.mono X1.out.size))
      obtain ⟨g8, hg8⟩ : ∃ g, w1.heap.size = g := ⟨_, rfl⟩
      rw [hg8] at P8 ⊢
      clear b2 hw2 p8 hg8 z2
      obtain ⟨n, hn⟩ : ∃ n, s.length = n := ⟨_, rfl⟩
      have HTl := Lib.hid (show (D.take n).length = n by rw [List.length_take, HDl.out]; omega)
      have i32 : (n : Int) ≤ 32 := by omega
      have hsa := TextSameW.same_below (some ⟨g8, 0, none⟩) C (D.take n) s 32 k w2 _ _ ((arr_bs P8.out P8.out.lt).take n) ((HC.out.below X2.out).more X2.out.size) (by rw [HTl.out]; unfold maxLen; omega)
      rw [HTl.out, hn] at hsa
      have HSa := Lib.hid hsa
      clear hsa
      rw [hn]
      go_wp2_with fail
      refine HSa.out.mono ?_
      clear HSa
      rintro e w3 ⟨rfl, b3⟩
      have X3 := Lib.hid (X2.out.trans (b3.mono X2.out.size))
      clear b3
      go_wp2
      go_ret2
      refine ⟨?_, X3.out⟩
      have e : (D.take n == s) = decide (D.take n = s) := by
        by_cases h : D.take n = s
        · rw [decide_eq_true h]; exact beq_iff_eq.2 h
        · rw [decide_eq_false h]; exact beq_eq_false_iff_ne.2 h
      rw [e]
      rfl

/-- The key of part k. -/
def keyOf (l : List UInt8) (ps : List (List UInt8)) (k : Nat) : List UInt8 := (chain l (ps.take k)).getLastD l
theorem chain_step (l : List UInt8) (ps : List (List UInt8)) (k : Nat) (h : k < ps.length) : chain l (ps.take (k + 1)) = chain l (ps.take k) ++ [hmac (keyOf l ps k) ps[k]] := by
  rw [List.take_succ_eq_append_getElem h, chain_snoc]
  rfl
theorem keyOf_step (l : List UInt8) (ps : List (List UInt8)) (k : Nat) (h : k < ps.length) : keyOf l ps (k + 1) = hmac (keyOf l ps k) ps[k] := by
  show (chain l (ps.take (k + 1))).getLastD l = _
  rw [chain_step l ps k h]
  simp
/-- The digests so far, noughts behind them. -/
def part (ds : List (List UInt8)) (m : Nat) : List UInt8 := ds.flatten ++ List.replicate (m * 32) 0
theorem part_split (ds : List (List UInt8)) (m : Nat) : Lib.byteCells (part ds (m + 1)) = Lib.byteCells ds.flatten ++ Lib.byteCells (List.replicate 32 0) ++ Lib.byteCells (List.replicate (m * 32) 0) := by
  unfold part Lib.byteCells
  rw [List.append_assoc, ← List.map_append, ← List.map_append, List.replicate_append_replicate, show 32 + m * 32 = (m + 1) * 32 by omega]
theorem part_join (ds : List (List UInt8)) (D : List UInt8) (m : Nat) : Lib.byteCells ds.flatten ++ Lib.byteCells D ++ Lib.byteCells (List.replicate (m * 32) 0) = Lib.byteCells (part (ds ++ [D]) m) := by
  unfold part Lib.byteCells
  rw [List.flatten_append, show ([D] : List (List UInt8)).flatten = D by simp, ← List.map_append, ← List.map_append]
theorem chain_flat (l : List UInt8) (ps : List (List UInt8)) (k : Nat) (h : k ≤ ps.length) : (chain l (ps.take k)).flatten.length = k * 32 := by
  rw [(show D32 (chain l (ps.take k)) from chain_32 _ _).len, chain_len, List.length_take]
  omega

set_option maxHeartbeats 8000000 in
set_option maxRecDepth 100000 in
theorem mchain_any (A : Option Addr) (l : List UInt8) (c : Nat) (P : Option Addr) (ps : List (List UInt8)) (d : Nat) (w : World) (hA : Bs w w.heap.size A l) (hc : l.length ≤ c) (hP : Ms w w.heap.size P ps) (_hd : ps.length ≤ d) (hl : l.length ≤ 140737488351232) (hps : ∀ p ∈ ps, p.length ≤ 1099511627712) (hn : ps.length ≤ 4398046511103) (hT : Tabs w) :
    Calls Tryd.prog 12 #[.slice A l.length c, .slice P ps.length d] w fun e w' => ∃ v, e = .returned v ∧ DRow w.heap.size w' v (chain l ps) ∧ Below w.heap.size w w' := by
  have HT := Lib.hid hT
  have HA := Lib.hid hA
  have HP := Lib.hid hP
  have HPS := Lib.hid hps
  clear hT hA hP hps
  obtain ⟨N, hN⟩ : ∃ N, ps.length = N := ⟨_, rfl⟩
  have HN := Lib.hid hN
  rw [hN] at hn ⊢
  clear hN
  go_enter Tryd.func12, Tryd.ntmps12
  have hmk := ArrMid.run_makeDigs N (by omega) w
  go_upto_region 2 with (fail)
  clear hmk
  generalize hW : World.alloc _ _ = W
  obtain ⟨H0, hbw, hsz⟩ := start1 hW
  clear hW
  obtain ⟨g, hg⟩ : ∃ g, w.heap.size = g := ⟨_, rfl⟩
  have HG := Lib.hid hg
  have A5 : Hid (Arr W g 24 (Lib.byteCells (part (chain l (ps.take 0)) N))) := Lib.hid (by rw [← hg]; exact H0)
  have X0 := Lib.hid hbw
  have HSZ := Lib.hid (show g < W.heap.size by omega)
  clear H0 hbw hsz
  rw [hg]
  rw [hg] at X0
  clear hg
  go_wp2
  go_loopw [0, 13] (fun vk vi wr => ∃ (k : Nat) (A2 : Option Addr) (c2 : Nat) (key : List UInt8), k ≤ N ∧ vi = .int .i64 (k : Int) ∧ vk = .slice A2 key.length c2 ∧ key = keyOf l ps k ∧ key.length ≤ c2 ∧ key.length ≤ 140737488351232 ∧ Bs wr wr.heap.size A2 key ∧ Arr wr g 24 (Lib.byteCells (part (chain l (ps.take k)) (N - k))) ∧ W.grownBy wr (some g)) (fun _ vi _ => N - (intOf vi).toNat)
  case atStart => exact ⟨0, A, c, l, by omega, rfl, rfl, rfl, hc, hl, (HA.out.below (by rw [HG.out]; exact X0.out)).more X0.out.size, A5.out, grownRefl _ _⟩
  case round =>
    obtain ⟨k, A2, c2, key, hk, rfl, rfl, hke, hkc, hkl, sb, ag, gr⟩ := hrel
    have SB := Lib.hid sb
    have AG := Lib.hid ag
    have GR := Lib.hid gr
    have HKe := Lib.hid hke
    have Xr := Lib.hid (X0.out.trans (grownBelow gr (Nat.le_refl _) (Nat.le_of_lt HSZ.out)))
    clear sb ag gr hke
    by_cases hlt : k < N
    · have ct : decide ((k : Int) < (N : Int)) = true := decide_eq_true (by omega)
      have hlp : k < ps.length := by rw [HN.out]; exact hlt
      obtain ⟨ad, a, ca, rfl, hadb, hcell, hbs, hca⟩ := HP.out.at_ hlp
      have hx : Below w.heap.size w wr := by rw [HG.out]; exact Xr.out
      have hc3 := (hx.cell (p := ad.add k) (by rw [add_block]; exact hadb)).trans hcell
      have HCs := Lib.hid (chain_step l ps k hlp)
      have HKn := Lib.hid (keyOf_step l ps k hlp)
      have hpl := HPS.out ps[k] (List.getElem_mem hlp)
      obtain ⟨p, hp⟩ : ∃ p, ps[k] = p := ⟨_, rfl⟩
      rw [hp] at HCs HKn hpl hc3 hbs hca
      rw [← HKe.out] at HCs HKn
      have hsu := msum_any A2 key c2 a p ca wr SB.out hkc ((hbs.below hx).more hx.size) hca hkl (by omega) (HT.out.below hx)
      rw [hm_small key p hpl] at hsu
      obtain ⟨D, hD⟩ : ∃ D, hmac key p = D := ⟨_, rfl⟩
      have HDl := Lib.hid (show D.length = 32 by rw [← hD]; exact hmac_len _ _)
      have N32 := Lib.hid (show (Lib.byteCells D).length = 32 by rw [Lib.byteCells_length]; exact HDl.out)
      rw [hD] at hsu HCs HKn
      have HSu := Lib.hid hsu
      clear hsu hp hD hx hbs hcell
      go_wp2_with fail
      refine HSu.out.mono ?_
      clear HSu
      rintro e w2 ⟨rfl, b2⟩
      have AG2 := Lib.hid (AG.out.below b2 AG.out.lt)
      have GR2 := Lib.hid (grownTrans GR.out (grownOf b2 (g := g)))
      have F := Lib.hid (show (Lib.byteCells (chain l (ps.take k)).flatten).length = k * 32 by rw [Lib.byteCells_length]; exact chain_flat l ps k (by omega))
      have hag := AG2.out
      rw [show N - k = (N - (k + 1)) + 1 by omega, part_split] at hag
      have AS := Lib.hid hag
      have NZ := Lib.hid (show (Lib.byteCells (List.replicate 32 (0 : UInt8))).length = 32 by rw [Lib.byteCells_length]; rfl)
      have hX2 := X0.out.trans (grownBelow GR2.out (Nat.le_refl _) (Nat.le_of_lt HSZ.out))
      obtain ⟨M, hM⟩ : ∃ M, N - (k + 1) = M := ⟨_, rfl⟩
      have HM := Lib.hid hM
      rw [hM] at AS
      clear hag b2 hM
      go_upto_region 6 with (refine ArrMid.storeMidL AS.out rfl 24 (.tmp 23) (.tmp 22) rfl (k * 32) F.out rfl (Lib.byteCells D) rfl dig_size NZ.out N32.out (bytes_one _) ?_)
      generalize hw3 : World.setRow _ _ _ = w3
      have a3 := AS.out.row (Lib.byteCells (chain l (ps.take k)).flatten ++ Lib.byteCells D ++ Lib.byteCells (List.replicate (M * 32) 0))
      have g3 := grown_row w2 g (Lib.byteCells (chain l (ps.take k)).flatten ++ Lib.byteCells D ++ Lib.byteCells (List.replicate (M * 32) 0)).toArray
      rw [hw3] at a3 g3
      have S3 := Lib.hid (show Bs w3 w3.heap.size (some ⟨g, k * 32, none⟩) D from ArrMid.bs_mid (x := (chain l (ps.take k)).flatten) (y := List.replicate (M * 32) 0) (by unfold Lib.byteCells at a3 ⊢; rw [List.map_append, List.map_append]; exact a3) a3.lt (k * 32) (chain_flat l ps k (by omega)))
      rw [part_join, ← HCs.out] at a3
      have A3 := Lib.hid a3
      have G3 := Lib.hid (grownTrans GR2.out g3)
      clear a3 g3 hw3 hX2 hc3 ct
      go_wp2
      go_roundw
      case rel => exact ⟨k + 1, some ⟨g, k * 32, none⟩, 32, D, by omega, by go_num, by rw [HDl.out], HKn.out.symm, by rw [HDl.out]; exact Nat.le_refl _, by rw [HDl.out]; decide, S3.out, by rw [HM.out]; exact A3.out, G3.out⟩
      case measure => simp [intOf]; omega
    · obtain rfl : k = N := by omega
      have ct : decide ((k : Int) < (k : Int)) = false := decide_eq_false (by omega)
      have a1 := AG.out
      rw [Nat.sub_self, List.take_of_length_le (by rw [HN.out]; exact Nat.le_refl _), show part (chain l ps) 0 = (chain l ps).flatten by simp [part]] at a1
      have HD := Lib.hid (ArrMid.drow_of (B := w.heap.size) a1 (chain_32 ps l) (n := k) (by rw [chain_len]; exact HN.out) (by rw [HG.out]; exact Nat.le_refl _) (by unfold maxLen; omega))
      have XF : Hid (Below w.heap.size w wr) := Lib.hid (by rw [HG.out]; exact Xr.out)
      clear a1
      go_wp2
      go_ret
      exact ⟨_, rfl, HD.out, XF.out⟩
end Go.Proofs.YtehlolklbdbhkaaDoor.MacSumW
