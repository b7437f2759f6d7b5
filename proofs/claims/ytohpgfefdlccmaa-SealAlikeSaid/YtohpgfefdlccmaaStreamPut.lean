/-
  ticketwardref.HBlock's first function of its own: the words of bytes, appended. Conditions: in the statement.
-/
import Derived.Test.YtohpgfefdlccmaaStreamStep
namespace Go.Proofs.Ytohpgfefdlccmaa.StreamPutW
open Go.RowKit BytesW CellsW WordsW ArrW ArrG HashM HashTurnW StreamM

theorem arr_other {w w' : World} {g : Nat} {t : TypeId} {xs : List Value} {o : Option Nat} (h : Arr w g t xs) (hg : w.grownBy w' o) (hne : o ≠ some g) : Arr w' g t xs :=
  (hg.block g h.lt (fun e => hne e.symm)).trans h
theorem bs_other {w w' : World} {A : Option Addr} {l : List UInt8} {o : Option Nat} (h : Bs w w.heap.size A l) (hg : w.grownBy w' o) (hne : 0 < l.length → ∀ ad, A = some ad → o ≠ some ad.block) : Bs w' w'.heap.size A l := by
  intro h0
  obtain ⟨ad, e, hlt, hcl⟩ := h h0
  exact ⟨ad, e, Nat.lt_of_lt_of_le hlt hg.size, fun k hk => (World.cell?_of_block (hg.block _ (by rw [add_block]; exact hlt) (by rw [add_block]; exact fun e' => hne h0 ad e e'.symm))).trans (hcl k hk)⟩
theorem below_other {w w' : World} {B : Nat} {o : Option Nat} (hg : w.grownBy w' o) (hB : B ≤ w.heap.size) (ho : ∀ k, o = some k → B ≤ k) : Below B w w' := (Below.refl B w).grown hg hB ho
theorem lwords_more (b : List UInt8) (j : Nat) (h : 4 * j + 4 ≤ b.length) : lwords (b.take (4 * (j + 1))) = lwords (b.take (4 * j)) ++ [val4 ((b.drop (4 * j)).take 4)] := by
  unfold lwords
  rw [List.length_take, List.length_take, Nat.min_eq_left (by omega), Nat.min_eq_left (by omega), show 4 * (j + 1) / 4 = j + 1 by omega, show 4 * j / 4 = j by omega, List.range_succ, List.map_append]
  congr 1
  · apply List.map_congr_left
    intro i hi
    have hij : i < j := List.mem_range.1 hi
    rw [List.drop_take, List.drop_take, List.take_take, List.take_take, Nat.min_eq_left (by omega), Nat.min_eq_left (by omega)]
  · simp only [List.map_cons, List.map_nil]
    rw [List.drop_take, List.take_take, Nat.min_eq_left (by omega)]
theorem val4_step (b : List UInt8) (p q : Nat) (hq : 1 ≤ q) (hq4 : q ≤ 4) (h : p + 4 ≤ b.length) : val4 ((b.drop (p + (q - 1))).take (4 - (q - 1))) = (b[p + (q - 1)]'(by omega)).toNat + 256 * val4 ((b.drop (p + q)).take (4 - q)) := by
  have hlt : p + (q - 1) < b.length := by omega
  rw [List.drop_eq_getElem_cons hlt, show 4 - (q - 1) = (4 - q) + 1 by omega, List.take_succ_cons, val4, show p + (q - 1) + 1 = p + q by omega]
theorem val4_small (l : List UInt8) (n : Nat) (h : l.length ≤ n) (hn : n ≤ 3) : val4 l < 16777216 := by
  have h1 := val4_lt l
  have h2 : 256 ^ l.length ≤ 256 ^ 3 := Nat.pow_le_pow_right (by decide) (by omega)
  have h3 : (256 : Nat) ^ 3 = 16777216 := by decide
  omega

set_option maxHeartbeats 4000000 in
set_option maxRecDepth 100000 in
theorem put_any (B g m : Nat) (A : Option Addr) (b : List UInt8) (c : Nat) (v : Value) (l : List Nat) (w : World) (hA : Bs w w.heap.size A b) (hb : b.length = 4 * m) (hm : l.length + m ≤ 1000) (hv : Arr w g 59 [v]) (hs : URow B w v l) (hBg : B ≤ g) (hne : v.ownBlock ≠ some g) (hap : 0 < b.length → ∀ ad, A = some ad → ad.block ≠ g ∧ v.ownBlock ≠ some ad.block) :
    Calls Try.prog 46 #[.slice A b.length c, .pointer (some ⟨g, 0, none⟩)] w fun e w' => e = .returned (.tuple #[]) ∧ ∃ v', Arr w' g 59 [v'] ∧ URow B w' v' (l ++ lwords b) ∧ v'.ownBlock ≠ some g ∧ Below B w w' := by
  have HA := Lib.hid hA
  have HB := Lib.hid hb
  have HV := Lib.hid hv
  have HS := Lib.hid hs
  have HN := Lib.hid hne
  have HP := Lib.hid hap
  have hgl := hv.lt
  have HG := Lib.hid hgl
  have hbl : b.length ≤ 4000 := by omega
  clear hA hb hv hs hne hap
  go_enter Try.func46, Try.ntmps46
  go_wp2
  go_loopw [3] (fun vk wr => ∃ (j p : Nat) (v1 : Value), p = 4 * j ∧ j ≤ m ∧ vk = .int .i64 (p : Int) ∧ Arr wr g 59 [v1] ∧ URow B wr v1 (l ++ lwords (b.take p)) ∧ (∀ k, v1.ownBlock = some k → v.ownBlock = some k ∨ w.heap.size ≤ k) ∧ Bs wr wr.heap.size A b ∧ Below B w wr) (fun vk _ => b.length - (intOf vk).toNat)
  case atStart => exact ⟨0, 0, v, rfl, by omega, rfl, HV.out, by simpa [lwords] using HS.out, fun k h => .inl h, HA.out, Below.refl _ _⟩
  case round =>
    obtain ⟨j, p, v1, hpj, hj, rfl, av, us, hown, bb, bx⟩ := hrel
    have AV := Lib.hid av
    have US := Lib.hid us
    have HOw := Lib.hid hown
    have BB := Lib.hid bb
    have BX := Lib.hid bx
    have HPj := Lib.hid hpj
    have HSZ := Lib.hid bx.size
    clear av us hown bb bx hpj
    by_cases hlt : j < m
    · have hp4 : p + 4 ≤ b.length := by have := HB.out; have := HPj.out; omega
      have ct : decide ((p : Int) < (b.length : Int)) = true := decide_eq_true (by omega)
      have HLw := Lib.hid (show lwords (b.take (p + 4)) = lwords (b.take p) ++ [val4 ((b.drop p).take 4)] by rw [HPj.out]; exact lwords_more b j (by have := HPj.out; omega))
      go_wp2
      go_loopw [4, 5] (fun vx vi wx => ∃ (q : Nat), q ≤ 4 ∧ vi = .int .i64 ((q : Int) - 1) ∧ vx = .int .u32 (val4 ((b.drop (p + q)).take (4 - q)) : Int) ∧ wx = wr) (fun _ vi _ => (intOf vi + 1).toNat)
      case atStart => exact ⟨4, by omega, rfl, by simp [val4], rfl⟩
      case round =>
        obtain ⟨q, hq, rfl, rfl, rfl⟩ := hrel
        cases q with
        | succ i =>
          rw [show (((i + 1 : Nat) : Int) - 1) = (i : Int) by omega]
          have ct2 : decide ((i : Int) ≥ 0) = true := decide_eq_true (by omega)
          have HX := Lib.hid (val4_step b p (i + 1) (by omega) hq hp4)
          obtain ⟨ad, rfl, _, cx⟩ := BB.out.at_ (k := p + i) (by omega)
          have hxl := val4_small ((b.drop (p + (i + 1))).take (4 - (i + 1))) 3 (by rw [List.length_take]; omega) (by omega)
          obtain ⟨x, hx⟩ : ∃ x, val4 ((b.drop (p + (i + 1))).take (4 - (i + 1))) = x := ⟨_, rfl⟩
          obtain ⟨y, hy⟩ : ∃ y, (b[p + i]'(by omega)) = y := ⟨_, rfl⟩
          have HX2 := Lib.hid (show val4 ((b.drop (p + i)).take (4 - i)) = y.toNat + 256 * x by rw [← hx, ← hy]; exact HX.out)
          rw [hx] at hxl ⊢
          rw [hy] at cx
          have hyl := y.toNat_lt
          obtain ⟨y', hy'⟩ : ∃ y', y.toNat = y' := ⟨_, rfl⟩
          rw [hy'] at cx hyl HX2
          have e1 : IntKind.i64.wrap ((p : Int) + (i : Int)) = ((p + i : Nat) : Int) := by rw [IntWalk.i64_in _ (by omega)]; omega
          have ipi : ((p + i : Nat) : Int) < (b.length : Int) := by omega
          obtain ⟨t, ht⟩ : ∃ t, p + i = t := ⟨_, rfl⟩
          rw [ht] at cx e1 ipi HX2
          have Ht := Lib.hid ht
          clear hx hy hy' ht HX
          go_wp2
          refine ⟨⟨i, by omega, rfl, ?_, trivial⟩, by simp [intOf]⟩
          rw [Ht.out, HX2.out]
          congr 1
          omega
        | zero =>
          rw [show (((0 : Nat) : Int) - 1) = -1 from rfl, Nat.add_zero, Nat.sub_zero]
          have ct2 : decide ((-1 : Int) ≥ 0) = false := rfl
          obtain ⟨x, hx⟩ : ∃ x, val4 ((b.drop p).take 4) = x := ⟨_, rfl⟩
          rw [hx] at HLw ⊢
          have cg : wr.cell? ⟨g, 0, none⟩ = some v1 := AV.out.cell 0
          clear hx
          have US1 := Lib.hid (US.out.alloc (.cells #[.int .u32 (x : Int)] 48))
          have NW := Lib.hid (newWord wr x)
          have b1 := (Below.refl wr.heap.size wr).alloc (Nat.le_refl _) (.cells #[.int .u32 (x : Int)] 48)
          have AV1 := Lib.hid (AV.out.below b1 AV.out.lt)
          have BB1 := Lib.hid ((BB.out.below b1).more b1.size)
          have hBw : B ≤ wr.heap.size := Nat.le_trans hBg (Nat.le_trans (Nat.le_of_lt HG.out) HSZ.out)
          have BX1 := Lib.hid (BX.out.trans (b1.mono hBw))
          have hz1 := b1.size
          have HLn := Lib.hid (show (l ++ lwords (b.take p)).length + 1 ≤ 35184372088832 by rw [List.length_append, lwords_len, List.length_take]; omega)
          clear b1
          go_wp2_with (at_builtin; go_must (refine uapp1g rfl (.tmp 26) (.tmp 28) rfl B v1 _ rfl US1.out ⟨wr.heap.size, 0, none⟩ 1 x rfl NW.out HLn.out (by simp; omega) ?_))
          obtain ⟨W1, hW1⟩ : ∃ W1, wr.alloc (.cells #[.int .u32 (x : Int)] 48) = W1 := ⟨_, rfl⟩
          rw [hW1] at AV1 BB1 BX1 US1 hz1 ⊢
          intro v2 w2 u2 g2 hv2
          have hon : v1.ownBlock ≠ some g := fun e => by
            rcases HOw.out g e with h | h
            · exact HN.out h
            · have := HG.out; omega
          have av2 := arr_other AV1.out g2 hon
          have hbo : 0 < b.length → ∀ ad, A = some ad → v1.ownBlock ≠ some ad.block := fun h0 ad e he => by
            rcases HOw.out _ he with h | h
            · exact (HP.out h0 ad e).2 h
            · obtain ⟨ad', e', hlt', _⟩ := HA.out h0
              rw [e] at e'
              cases e'
              omega
          have BB2 := Lib.hid (bs_other BB1.out g2 hbo)
          have BX2 := Lib.hid (BX1.out.trans (below_other g2 (Nat.le_trans hBw hz1) (fun k hk => (World.ownsRow.lt US1.out k hk).1)))
          have cg2 : w2.cell? ⟨g, 0, none⟩ = some v1 := av2.cell 0
          have fg2 := av2.frozen 0
          have av3 := av2.set 0 v2
          rw [show ([v1] : List Value).set 0 v2 = [v2] from rfl] at av3
          have AV3 := Lib.hid av3
          have gs := grownSet w2 g 0 v2
          have hv2g : v2.ownBlock ≠ some g := fun e => by
            rcases hv2 g e with h | h
            · exact hon h
            · have := AV.out.lt; omega
          have u2' : URow B w2 v2 (l ++ lwords (b.take (p + 4))) := by rw [HLw.out]; exact u2
          have US3 : Hid (URow B (w2.setCell ⟨g, 0, none⟩ v2) v2 (l ++ lwords (b.take (p + 4)))) := Lib.hid (by
            unfold URow VRow at u2' ⊢
            exact World.ownsRow.kept u2' gs (.inr hv2g))
          have BB3 := Lib.hid (bs_other BB2.out gs (fun h0 ad e he => by cases he; exact (HP.out h0 ad e).1 rfl))
          have BX3 := Lib.hid (BX2.out.trans (grownBelow gs hBg (Nat.le_trans hBg (Nat.le_trans (Nat.le_of_lt HG.out) BX2.out.size))))
          have HO3 : Hid (∀ k, v2.ownBlock = some k → v.ownBlock = some k ∨ w.heap.size ≤ k) := Lib.hid (fun k hk => by
            rcases hv2 k hk with h | h
            · exact HOw.out k h
            · have := HSZ.out; omega)
          obtain ⟨A2, d2, rfl, -, -⟩ := u2'.form
          obtain ⟨n2, hn2⟩ : ∃ n2, (l ++ lwords (b.take (p + 4))).length = n2 := ⟨_, rfl⟩
          rw [hn2] at AV3 US3 BB3 BX3 HO3 ⊢
          clear u2 u2' g2 hv2 hon av2 hbo av3 gs hv2g hW1 US1 AV1 BB1 BX1 BB2 BX2 NW hn2
          go_wp2
          exact ⟨⟨j + 1, p + 4, _, by have := HPj.out; omega, by omega, by go_num, AV3.out, US3.out, HO3.out, BB3.out, BX3.out⟩, by simp [intOf]; omega⟩
    · obtain rfl : j = m := by omega
      have ct : decide (p < b.length) = false := decide_eq_false (by have := HB.out; have := HPj.out; omega)
      have hbt : b.take p = b := List.take_of_length_le (by have := HB.out; have := HPj.out; omega)
      rw [hbt] at US
      have hon : v1.ownBlock ≠ some g := fun e => by
        rcases HOw.out g e with h | h
        · exact HN.out h
        · have := HG.out; omega
      clear hbt
      go_wp2
      refine bodyPost_end (v := .tuple #[]) (results_none (by rfl) _ _ _) rfl ?_
      exact ⟨rfl, v1, AV.out, US.out, hon, BX.out⟩
end Go.Proofs.Ytohpgfefdlccmaa.StreamPutW
