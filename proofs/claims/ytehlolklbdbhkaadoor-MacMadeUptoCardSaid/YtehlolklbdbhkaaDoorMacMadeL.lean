/-
  The walk of ticketwardkeep.MacMade: it returns true and writes nothing that was there. Conditions: the program's own table; bulk at most 1048576.
-/
import Derived.Test.YtehlolklbdbhkaaDoorMacAlive
import Derived.Test.YtehlolklbdbhkaaDoorHashSum
import Derived.Test.YtehlolklbdbhkaaDoorKb
import Derived.Test.YtehlolklbdbhkaaDoorKd
import Derived.Lib.AppendZeros
namespace Go.Proofs.YtehlolklbdbhkaaDoor.MacMadeL
open Go.RowKit BytesW CellsW WordsW ArrW HashX HashCompW HashSumW HashSameW HashFinW MacM MacRefW MacSumW

/-- The first k bytes of a key mixed in. -/
def mixk (K : List UInt8) (x : UInt8) (k : Nat) : List UInt8 := (K.map (· ^^^ x)).take k ++ List.replicate (64 - k) 0
theorem mixk_len (K : List UInt8) (x : UInt8) (k : Nat) (h : K.length = 64) (hk : k ≤ 64) : (mixk K x k).length = 64 := by simp [mixk]; omega
theorem mixk_set (K : List UInt8) (x : UInt8) (k : Nat) (h : K.length = 64) (hk : k < 64) : (mixk K x k).set k ((K.getD k 0) ^^^ x) = mixk K x (k + 1) := by
  have h1 : ((K.map (· ^^^ x)).take k).length = k := by simp; omega
  unfold mixk
  rw [List.set_append, if_neg (by omega), h1, Nat.sub_self, show 64 - k = (64 - (k + 1)) + 1 by omega, List.replicate_succ, List.set_cons_zero, List.take_succ_eq_append_getElem (by simp; omega), List.append_assoc]
  simp [List.getD_eq_getElem?_getD, h, hk]
theorem mixk_all (K : List UInt8) (x : UInt8) (h : K.length = 64) : mixk K x 64 = K.map (· ^^^ x) := by
  unfold mixk
  rw [List.take_of_length_le (by simp; omega)]
  simp
/-- A row of its own, whole. -/
theorem row_arr {w : World} {g B : Nat} {l : List UInt8} (h : Arr w g 5 (Lib.byteCells l)) (n : Nat) (hn : l.length = n) (hB : B ≤ g) (hm : n ≤ maxLen) : Row B w (.slice (some ⟨g, 0, none⟩) n n) l := by
  subst hn
  unfold Row
  exact ⟨by simp [Lib.byteCells], .inr ⟨g, l.length, _, rfl, hB, h, Nat.le_refl _, hm, by simp [Lib.byteCells], by rw [List.take_of_length_le (by simp [Lib.byteCells])]⟩⟩
theorem made64 : madeCells #[.int .u8 0] 64 = (Lib.byteCells (List.replicate 64 0)).toArray := by
  apply Array.toList_inj.1
  rw [toList_madeCells_one]
  simp [Lib.byteCells]
theorem below_set {B : Nat} {a w : World} (h : Below B a w) (p : Addr) (u : Value) (hp : B ≤ p.block) : Below B a (w.setCell p u) :=
  ⟨h.os, h.tape, h.output, by have := h.size; simpa using this, fun k hk => (heap_setCell_other w p k u (by omega)).trans (h.block k hk)⟩

set_option maxHeartbeats 8000000 in
set_option maxRecDepth 100000 in
theorem walk (K : List UInt8) (hK : K.length = 64) (a1 : Option Addr) (l1 : List UInt8) (c1 : Nat) (w : World) (hB : Bs w w.heap.size a1 l1) (hc1 : l1.length ≤ c1) (hl1 : l1.length ≤ 1048576) (hT : Tabs w) :
    Calls Tryd.prog 8 #[.agg (Lib.byteCells K).toArray, .slice a1 l1.length c1] w fun e w' => e = .returned (.bool true) ∧ Below w.heap.size w w' := by
  have HT := Lib.hid hT
  have HR : Hid (TabR w) := Lib.hid hT
  have HB := Lib.hid hB
  have HK := Lib.hid hK
  clear hT hB hK
  go_enter Tryd.func8, Tryd.ntmps8
  go_upto_region 1 with (fail)
  generalize hW : World.alloc _ _ = W0
  obtain ⟨r0, hb0, hs0⟩ := start1 hW
  clear hW
  have P2 : Hid (Arr W0 w.heap.size 41 (Lib.byteCells K)) := Lib.hid r0
  have X0 := Lib.hid hb0
  clear r0 hb0 hs0
  go_wp2_with fail
  refine (MacAliveW.alive_any W0 (HT.out.below X0.out)).mono ?_
  rintro e w1 ⟨rfl, b1⟩
  have X1 := Lib.hid (X0.out.trans (b1.mono X0.out.size))
  have P21 := Lib.hid (P2.out.below b1 P2.out.lt)
  clear b1 P2 X0
  obtain ⟨g2, hg2⟩ : ∃ g, w.heap.size = g := ⟨_, rfl⟩
  have Hg2 := Lib.hid hg2
  have P21' : Hid (Arr w1 g2 41 (Lib.byteCells K)) := Lib.hid (by rw [← hg2]; exact P21.out)
  rw [hg2]
  clear hg2 P21
  go_upto_region 3 with (fail)
  rename_i Kr hKr
  have H : ∀ (gi go : Nat) (W : World), gi ≠ go → w1.heap.size ≤ gi → w1.heap.size ≤ go → Below w1.heap.size w1 W → Arr W gi 5 (Lib.byteCells (List.replicate 64 0)) → Arr W go 5 (Lib.byteCells (List.replicate 64 0)) →
      Kr { tmps := #[.agg (Lib.byteCells K).toArray, .slice a1 l1.length c1, .pointer (some ⟨g2, 0, none⟩), undef, .bool false, .slice (some ⟨gi, 0, none⟩) 64 64, .slice (some ⟨go, 0, none⟩) 64 64, undef, undef, undef, .bool true, .bool false, .slice (some ⟨gi, 0, none⟩) 64 64, .slice (some ⟨go, 0, none⟩) 64 64, undef, undef, undef, undef, undef, undef, undef, undef, undef, undef, undef, undef, undef, undef, undef, undef, undef, undef, undef, undef, undef, undef, undef, undef, undef, undef, undef, undef], defers := [] } W := by
    intro gi go W hne hgi hgo hbW hai hao
    refine hKr _ _ ?_
    dsimp only
    have a64 := arr64
    have A64 := Lib.hid a64
    have X0 := Lib.hid (X1.out.trans (hbW.mono X1.out.size))
    have P2 := Lib.hid (P21'.out.below hbW P21'.out.lt)
    have N64 := Lib.hid (show (Lib.byteCells K).length = 64 by rw [Lib.byteCells_length]; exact HK.out)
    have IN0 := Lib.hid (show Arr W gi 5 (Lib.byteCells (mixk K 54 0)) from hai)
    have OU0 := Lib.hid (show Arr W go 5 (Lib.byteCells (mixk K 92 0)) from hao)
    have Hne := Lib.hid hne
    have Hgi := Lib.hid (show w.heap.size ≤ gi from Nat.le_trans X1.out.size hgi)
    have Hgo := Lib.hid (show w.heap.size ≤ go from Nat.le_trans X1.out.size hgo)
    have H2i := Lib.hid (show g2 < gi from Nat.lt_of_lt_of_le P21'.out.lt hgi)
    have H2o := Lib.hid (show g2 < go from Nat.lt_of_lt_of_le P21'.out.lt hgo)
    clear a64 hbW hai hao hne hgi hgo
    go_wp2_with (refine Arr.loadL P2.out rfl 41 (.tmp 2) rfl rfl A64.out rfl arr64_size N64.out ?_)
    go_loopw [15] (fun v wr => ∃ k : Nat, k ≤ 64 ∧ v = .int .i64 (k : Int) ∧ Arr wr gi 5 (Lib.byteCells (mixk K 54 k)) ∧ Arr wr go 5 (Lib.byteCells (mixk K 92 k)) ∧ Arr wr g2 41 (Lib.byteCells K) ∧ Below w.heap.size w wr) (fun v _ => 64 - (intOf v).toNat)
    case atStart => exact ⟨0, by omega, rfl, IN0.out, OU0.out, P2.out, X0.out⟩
    case round =>
      obtain ⟨k, hk, rfl, ai, ao, p2, hx⟩ := hrel
      have AI := Lib.hid ai
      have AO := Lib.hid ao
      have PK := Lib.hid p2
      have XK := Lib.hid hx
      clear ai ao p2 hx
      by_cases hlt : k < 64
      · have ct : decide ((k : Int) < 64) = true := decide_eq_true (by omega)
        obtain ⟨x, hx⟩ : ∃ x, K.getD k 0 = x := ⟨_, rfl⟩
        have hix : (Instr.index 41 (.agg (Lib.byteCells K).toArray) (.int .i64 (k : Int))).run Tryd.prog wr = .ok (.int .u8 (x.toNat : Int)) wr := run_index_arr wr _ 5 64 _ k _ _ A64.out byte_desc rfl byte_size hlt (by have h := HashX.bc_getD K k (by rw [HK.out]; exact hlt); rw [hx] at h; simpa using h)
        have h54 : bits .xor .u8 (x.toNat : Int) 54 = ((x ^^^ 54).toNat : Int) := Bits.xor_u8 x 54
        have h92 : bits .xor .u8 (x.toNat : Int) 92 = ((x ^^^ 92).toNat : Int) := Bits.xor_u8 x 92
        have S54 := Lib.hid (mixk_set K 54 k HK.out hlt)
        have S92 := Lib.hid (mixk_set K 92 k HK.out hlt)
        rw [hx] at S54 S92
        obtain ⟨y1, hy1⟩ : ∃ y, x ^^^ 54 = y := ⟨_, rfl⟩
        obtain ⟨y2, hy2⟩ : ∃ y, x ^^^ 92 = y := ⟨_, rfl⟩
        rw [hy1] at h54 S54
        rw [hy2] at h92 S92
        have bi := (AI.out.set k (.int .u8 (y1.toNat : Int)))
        rw [HashX.bc_set, S54.out] at bi
        have bo := ((AO.out.other ⟨gi, k, none⟩ (.int .u8 (y1.toNat : Int)) Hne.out).set k (.int .u8 (y2.toNat : Int)))
        rw [HashX.bc_set, S92.out] at bo
        have ci := AI.out.cell k
        rw [HashX.bc_getD _ k (by rw [mixk_len K 54 k HK.out hk]; exact hlt)] at ci
        have fi := AI.out.frozen k
        have co := (AO.out.other ⟨gi, k, none⟩ (.int .u8 (y1.toNat : Int)) Hne.out).cell k
        rw [HashX.bc_getD _ k (by rw [mixk_len K 92 k HK.out hk]; exact hlt)] at co
        have fo := (AO.out.other ⟨gi, k, none⟩ (.int .u8 (y1.toNat : Int)) Hne.out).frozen k
        have BI := Lib.hid (bi.other ⟨go, k, none⟩ (.int .u8 (y2.toNat : Int)) (fun e => Hne.out e.symm))
        have BO := Lib.hid bo
        have BK := Lib.hid ((PK.out.other ⟨gi, k, none⟩ (.int .u8 (y1.toNat : Int)) (by have := H2i.out; show gi ≠ g2; omega)).other ⟨go, k, none⟩ (.int .u8 (y2.toNat : Int)) (by have := H2o.out; show go ≠ g2; omega))
        have BX := Lib.hid (below_set (below_set XK.out ⟨gi, k, none⟩ (.int .u8 (y1.toNat : Int)) Hgi.out) ⟨go, k, none⟩ (.int .u8 (y2.toNat : Int)) Hgo.out)
        clear hx hy1 hy2 bi bo
        go_wp2
        go_roundw
        case rel => exact ⟨k + 1, by omega, by go_num, BI.out, BO.out, BK.out, BX.out⟩
        case measure => simp [intOf]; omega
      · obtain rfl : k = 64 := by omega
        have ct : decide (((64 : Nat) : Int) < 64) = false := rfl
        have EI := Lib.hid (show inner K = mixk K 54 64 by rw [mixk_all K 54 HK.out]; unfold inner; rw [kb_block K HK.out])
        have EO := Lib.hid (show outer K = mixk K 92 64 by rw [mixk_all K 92 HK.out]; unfold outer; rw [kb_block K HK.out])
        obtain ⟨IN, hIN⟩ : ∃ IN, mixk K 54 64 = IN := ⟨_, rfl⟩
        obtain ⟨OU, hOU⟩ : ∃ OU, mixk K 92 64 = OU := ⟨_, rfl⟩
        have INl := Lib.hid (show IN.length = 64 by rw [← hIN]; exact mixk_len K 54 64 HK.out hk)
        have OUl := Lib.hid (show OU.length = 64 by rw [← hOU]; exact mixk_len K 92 64 HK.out hk)
        rw [hIN] at AI EI
        rw [hOU] at AO EO
        have HHm := Lib.hid (show hmac K l1 = HashM.sum (OU ++ HashM.sum (IN ++ l1)) by unfold hmac; rw [EI.out, EO.out])
        have RI := Lib.hid (row_arr AI.out 64 INl.out Hgi.out (by unfold maxLen; omega))
        have HBk := Lib.hid ((HB.out.below XK.out).more XK.out.size)
        clear hIN hOU hk
        go_wp2_with (at_builtin; go_must (refine appNg rfl (.tmp 30) (.tmp 31) rfl w.heap.size _ _ IN rfl RI.out a1 l1 c1 rfl HBk.out (by rw [INl.out]; omega) XK.out.size ?_))
        intro v5 w5 r5 g5
        have g5' : wr.grownBy w5 (some gi) := g5
        have X5 := Lib.hid (XK.out.trans (grownBelow g5' Hgi.out XK.out.size))
        have AO5 := Lib.hid (arr_grown AO.out g5' (fun e => Hne.out e.symm))
        have PK5 := Lib.hid (arr_grown PK.out g5' (by have := H2i.out; omega))
        obtain ⟨A5, d5, rfl, s5, hd5⟩ := r5.form2
        have hsu := sum_any A5 (IN ++ l1) d5 w5 s5 hd5 (by rw [List.length_append, INl.out]; omega) (HR.out.below X5.out)
        rw [List.length_append, INl.out] at hsu
        have HSu := Lib.hid hsu
        obtain ⟨D1, hD1⟩ : ∃ D1, HashM.sum (IN ++ l1) = D1 := ⟨_, rfl⟩
        have HD1l := Lib.hid (show D1.length = 32 by rw [← hD1]; exact sum_len _)
        have N32 := Lib.hid (show (Lib.byteCells D1).length = 32 by rw [Lib.byteCells_length]; exact HD1l.out)
        rw [hD1] at HSu HHm
        clear g5 g5' r5 s5 hsu hD1 RI HBk AI
        rw [List.length_append, INl.out]
        go_wp2_with fail
        refine HSu.out.mono ?_
        clear HSu
        rintro e w6 ⟨rfl, b6⟩
        have X6 := Lib.hid (X5.out.trans (b6.mono X5.out.size))
        have AO6 := Lib.hid (AO5.out.below b6 AO5.out.lt)
        have PK6 := Lib.hid (PK5.out.below b6 PK5.out.lt)
        clear b6 AO5 PK5
        go_upto_region 10 with (refine Arr.storeL (Arr.new w6 _ _) rfl 24 (.tmp 9) (.tmp 33) rfl rfl (Lib.byteCells D1) rfl dig_size (by rfl) N32.out (bytes_one _) ?_)
        generalize hw7 : World.setRow _ _ _ = w7
        obtain ⟨p9, b7, z7⟩ := filled hw7
        have X7 := Lib.hid (X6.out.trans (b7.mono X6.out.size))
        have AO7 := Lib.hid (AO6.out.below b7 AO6.out.lt)
        have PK7 := Lib.hid (PK6.out.below b7 PK6.out.lt)
        have P9 := Lib.hid p9
        obtain ⟨g9, hg9⟩ : ∃ g, w6.heap.size = g := ⟨_, rfl⟩
        rw [hg9] at P9 ⊢
        clear b7 hw7 p9 hg9 z7 AO6 PK6 ct
        have hab := ab w7
        have x0 := (Below.refl w7.heap.size w7).drew
        obtain ⟨V0, hV0⟩ : ∃ x, w7.drew = x := ⟨_, rfl⟩
        refine wp_region_tree (.read 0 (.read 1 (.read 3 (.read 4 (.step 2 (.step 5 (.step 6 (.read 7 (.read 8 .done))))))))) (fun W => ∃ x : Ab w, W = x.val) (by kernel_rfl) (by kernel_rfl) (by decide) (fun _ _ d _ _ h => by cases d <;> exact h) (Cl.of (X7.out.trans ((Below.refl _ _).drew.mono X7.out.size))) ?_
        have hab0 := ab w
        rw [hV0] at x0 ⊢
        clear hV0
        have y0 := X7.out.trans (x0.mono X7.out.size)
        have hsu := msum_any (some ⟨g2, 0, none⟩) K 64 a1 l1 c1 V0 (arr_bs (PK7.out.below x0 PK7.out.lt) (Nat.lt_of_lt_of_le PK7.out.lt x0.size)) (by rw [HK.out]; exact Nat.le_refl _) ((HB.out.below y0).more y0.size) hc1 (by rw [HK.out]; decide) (Nat.le_trans hl1 (by decide)) (HT.out.below y0)
        rw [hm_small _ _ (Nat.le_trans hl1 (by decide)), HK.out, HHm.out] at hsu
        have HSu := Lib.hid hsu
        obtain ⟨DD, hDD⟩ : ∃ DD, HashM.sum (OU ++ D1) = DD := ⟨_, rfl⟩
        have HDD := Lib.hid hDD
        have HDl := Lib.hid (show DD.length = 32 by rw [← hDD]; exact sum_len _)
        rw [hDD] at HSu
        clear hsu hDD HHm
        iterate 4 (refine tree_read rfl (fun K hK => ?_); go_simp; refine hK _ ?_; clear hK K)
        refine tree_step rfl (Cl.of y0) (fun K hK => ?_)
        go_simp
        refine HSu.out.mono ?_
        clear HSu
        rintro e V1 ⟨rfl, b1⟩
        have x1 := x0.trans (b1.mono x0.size)
        have y1 := X7.out.trans (x1.mono X7.out.size)
        refine hK _ _ ⟨Cl.of y1, ?_⟩
        clear hK K b1
        have ao1 := AO7.out.below x1 AO7.out.lt
        obtain ⟨v2, V2, hr2, r2, gr2⟩ := run_appN V1 w.heap.size V1.heap.size 22 (.slice (some ⟨go, 0, none⟩) 64 64) OU (row_arr ao1 64 OUl.out Hgo.out (by unfold maxLen; omega)) ⟨g9, 0, none⟩ D1 32 32 HD1l.out (arr_bs (P9.out.below x1 P9.out.lt) (Nat.lt_of_lt_of_le P9.out.lt x1.size)) (by rw [OUl.out, HD1l.out]; omega) y1.size
        have gr2' : V1.grownBy V2 (some go) := gr2
        have y2 := y1.trans (grownBelow gr2' Hgo.out y1.size)
        refine tree_step rfl (Cl.of y1) (fun K hK => want rfl ?_)
        refine Lib.wp_append_run V1 (.tmp 37) (.tmp 38) 22 22 rfl (.slice (some ⟨go, 0, none⟩) 64 64) (.slice (some ⟨g9, 0, none⟩) 32 32) rfl rfl v2 V2 hr2 ?_
        refine hK _ _ ⟨Cl.of y2, ?_⟩
        clear hK K hr2 gr2 gr2' ao1
        obtain ⟨A6, d6, rfl, s6, hd6⟩ := r2.form2
        have hsu := sum_any A6 (OU ++ D1) d6 V2 s6 hd6 (by rw [List.length_append, OUl.out, HD1l.out]; omega) (HR.out.below y2)
        rw [HDD.out, List.length_append, OUl.out, HD1l.out] at hsu
        rw [List.length_append, OUl.out, HD1l.out]
        have HSu := Lib.hid hsu
        clear hsu r2 s6 hd6
        refine tree_step rfl (Cl.of y2) (fun K hK => ?_)
        go_simp
        refine HSu.out.mono ?_
        clear HSu
        rintro e V3 ⟨rfl, b3⟩
        have y3 := y2.trans (b3.mono y2.size)
        refine hK _ _ ⟨Cl.of y3, ?_⟩
        clear hK K b3
        have heq : ∀ x : Ab w, (Op.equalIn 10000 24 (.agg (Lib.byteCells DD).toArray) (.agg (Lib.byteCells DD).toArray)).run Tryd.prog x.val = .ok true x.val := fun x => eql_dig DD HDl.out x.val
        iterate 2 (refine tree_read rfl (fun K hK => ?_); go_simp; refine hK _ ?_; clear hK K)
        refine tree_done ?_
        go_wp2
        go_ret
        exact ⟨rfl, y3⟩
  have hmk : ∀ V : World, (Instr.makeSlice 22 (.int .i64 64) (.int .i64 64)).run Tryd.prog V = .ok (.slice (some ⟨V.heap.size, 0, none⟩) 64 64) (V.alloc (.cells (Lib.byteCells (List.replicate 64 0)).toArray 5)) := fun V => by
    have h := makeN 64 (by omega) V
    rw [made64] at h
    exact h
  obtain ⟨Z, hZ⟩ : ∃ Z : List UInt8, List.replicate 64 0 = Z := ⟨_, rfl⟩
  rw [hZ] at H hmk
  obtain ⟨ZC, hZC⟩ : ∃ ZC, (Lib.byteCells Z).toArray = ZC := ⟨_, rfl⟩
  have HZC := Lib.hid (show Lib.byteCells Z = ZC.toList by rw [← hZC])
  rw [hZC] at hmk
  clear hZ hZC
  refine wp_region_tree (.fork 0 (.read 2 (.step 1 (.read 3 .done))) 1 (.step 0 (.read 2 (.read 3 .done)))) (fun W => ∃ x : Ab w1, W = x.val) (by kernel_rfl) (by kernel_rfl) (by decide) (fun _ _ d _ _ h => by cases d <;> exact h) (Cl.of (Below.refl _ _).drew) ?_
  have x0 := (Below.refl w1.heap.size w1).drew
  have hab := ab w1
  obtain ⟨V0, hV0⟩ : ∃ x, w1.drew = x := ⟨_, rfl⟩
  rw [hV0] at x0 ⊢
  clear hV0
  refine tree_fork rfl rfl (Cl.of x0) (fun K hK => ?_) (fun K hK => ?_)
  · go_simp
    generalize hV1 : World.alloc _ _ = V1
    obtain ⟨q1, b1, -⟩ := start1 hV1
    have hlt := q1.lt
    rw [← HZC.out] at q1
    have x1 := x0.trans (b1.mono x0.size)
    refine hK _ _ ⟨Cl.of x1, ?_⟩
    clear hK K hV1
    refine tree_read rfl (fun K hK => ?_)
    go_simp
    refine hK _ ?_
    clear hK K
    refine tree_step rfl (Cl.of x1) (fun K hK => ?_)
    go_simp
    generalize hV2 : World.alloc _ _ = V2
    obtain ⟨q2, b2, -⟩ := start1 hV2
    rw [← HZC.out] at q2
    have x2 := x1.trans (b2.mono x1.size)
    refine hK _ _ ⟨Cl.of x2, ?_⟩
    clear hK K hV2
    refine tree_read rfl (fun K hK => ?_)
    go_simp
    refine hK _ ?_
    clear hK K
    refine tree_done ?_
    refine H V0.heap.size V1.heap.size V2 (by omega) x0.size x1.size x2 (q1.below b2 q1.lt) q2
  · go_simp
    generalize hV1 : World.alloc _ _ = V1
    obtain ⟨q1, b1, -⟩ := start1 hV1
    have hlt := q1.lt
    rw [← HZC.out] at q1
    have x1 := x0.trans (b1.mono x0.size)
    refine hK _ _ ⟨Cl.of x1, ?_⟩
    clear hK K hV1
    refine tree_step rfl (Cl.of x1) (fun K hK => ?_)
    go_simp
    generalize hV2 : World.alloc _ _ = V2
    obtain ⟨q2, b2, -⟩ := start1 hV2
    rw [← HZC.out] at q2
    have x2 := x1.trans (b2.mono x1.size)
    refine hK _ _ ⟨Cl.of x2, ?_⟩
    clear hK K hV2
    refine tree_read rfl (fun K hK => ?_)
    go_simp
    refine hK _ ?_
    clear hK K
    refine tree_read rfl (fun K hK => ?_)
    go_simp
    refine hK _ ?_
    clear hK K
    refine tree_done ?_
    refine H V1.heap.size V0.heap.size V2 (by omega) x1.size x0.size x2 q2 (q1.below b2 q1.lt)
end Go.Proofs.YtehlolklbdbhkaaDoor.MacMadeL
