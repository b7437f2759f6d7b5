/-
  slices.Concat of rows of bytes up to what a machine's memory can name at all: the same as SConcat, farther. Conditions: bounds in each statement.
-/
import Derived.Test.YtohpgfefdlccmaaSConcat
import Derived.OwnWalk
namespace Go.Proofs.Ytohpgfefdlccmaa.SConcatY
open Go.RowKit BytesW RowsW SConcatW

/-- 'append(v, s...)' where the room is there: the place stays. -/
theorem appFit {w : World} {ops : Array Oper} {rest : List Oper} {o : Oper} {a : Act} {Q : Exit → Act → World → Prop} (hgd : o.guard = none) (s x : Operand)
    (ho : o.op = .call { callee := .builtin .append, args := #[s, x], argTypes := #[22, 22] })
    (B N : Nat) (g n cap : Nat) (l : List UInt8) (hn : n = l.length) (hs : a.eval s = .slice (some ⟨g, 0, none⟩) n cap) (hown : Row B w (.slice (some ⟨g, 0, none⟩) n cap) l)
    (A : Option Addr) (m : List UInt8) (cp : Nat) (hx : a.eval x = .slice A m.length cp) (hm : Bs w N A m)
    (hl : n + m.length ≤ cap) (hB : B ≤ w.heap.size)
    (h : ∀ w', Row B w' (.slice (some ⟨g, 0, none⟩) (n + m.length) cap) (l ++ m) → Below B w w' → wpList Try.prog ops Q rest (a.put o.dst (.slice (some ⟨g, 0, none⟩) (n + m.length) cap)) w') : wpList Try.prog ops Q (o :: rest) a w := by
  subst hn
  cases A with
  | none =>
    have hm0 : m = [] := by
      cases m with
      | nil => rfl
      | cons y r => obtain ⟨ad, e, _⟩ := hm (by simp); cases e
    subst hm0
    refine wpList_plain hgd fun K hK => ?_
    unfold Oper.wp execOp
    simp only [ho, resolve, invoke, builtin, Sem.run_bind, Sem.run_pure, Result.andThen_ok, List.map_toArray, List.map_cons, List.map_nil, hs, hx, List.length_nil, run_app_nil w B o.type _ l hown cp]
    exact hK _ _ (h w (by simpa using hown) (Below.refl _ _))
  | some ad =>
    obtain ⟨i0, hi, hz0, hz1, hz2⟩ := info_parts infoByte
    refine wpList_append_fits w hgd s x 22 ho B 5 i0 1 Try.underlying22 hi hz1 g l.length cap _ hs hown ad m.length cp (Lib.byteCells m) hx (by rw [Lib.byteCells_length, Nat.mul_one]) ?_ ?_ hl ?_
    · intro j u hj
      have hjl : j < m.length := by
        rcases Nat.lt_or_ge j m.length with h | h
        · exact h
        · simp [Lib.byteCells, h] at hj
      obtain ⟨ad', e, _, hc⟩ := hm.at_ hjl
      cases e
      rw [hc]
      simpa [Lib.byteCells, List.getElem?_eq_getElem hjl] using hj
    · intro u hu
      simp only [Lib.byteCells, List.mem_map] at hu
      obtain ⟨b, _, rfl⟩ := hu
      rfl
    · intro w' h1 hg
      refine h w' ?_ ((Below.refl B w).grown hg hB fun k hk => (World.ownsRow.lt hown k hk).1)
      unfold Row
      rw [Lib.byteCells_append, List.length_append]
      exact h1

set_option maxHeartbeats 2000000 in
set_option maxRecDepth 100000 in
theorem grow_far (n : Nat) (w : World) (hpos : 0 < n) (hn : n ≤ 281474976710656) :
    Calls Try.prog 21 #[.slice none 0 0, .int .i64 (n : Int)] w fun e w' => ∃ g cap, e = .returned (.slice (some ⟨g, 0, none⟩) 0 cap) ∧ n ≤ cap ∧ Row w.heap.size w' (.slice (some ⟨g, 0, none⟩) 0 cap) [] ∧ Below w.heap.size w w' := by
  obtain ⟨i0, hi, hz0, hz1, hz2⟩ := info_parts infoByte
  have happ := Lib.run_append_nil_zeros (P := Try.prog) w 22 3 22 5 i0 (.int .u8 0) .i64 .i64 Try.underlying22 Try.underlying3 hi hz0 n hpos (by omega) (by omega) (by rw [hz2]; omega)
  generalize hcap : grownCap w n 0 5 = cap2 at happ
  have hcapge : n ≤ cap2 := by rw [← hcap]; exact grownCap_ge w _ 0 5
  have hcaple : cap2 ≤ maxLen := by rw [← hcap]; exact grownCap_le_maxLen w _ 0 5 (by unfold maxLen; omega)
  generalize hZ : (Builtin.zeroCells (Value.int .u8 0).cells n ++ Builtin.zeroCells (Value.int .u8 0).cells (cap2 - n)) = Z at happ
  have hZs : Z.size = cap2 := by rw [← hZ]; simp [size_zeroCells, Value.cells]; omega
  clear hcap hZ hi hz0 hz1 hz2
  have hrow : Row w.heap.size (w.alloc (.cells Z 5)).drew (.slice (some ⟨w.heap.size, 0, none⟩) 0 cap2) [] := by
    have := World.ownsRow_made (base := w.heap.size) (e := 5) (size := 1) w Z cap2 (Nat.le_refl _) hcaple (by rw [hZs, Nat.mul_one])
    exact this
  have hb : Below w.heap.size w (w.alloc (.cells Z 5)).drew := ((Below.refl w.heap.size w).alloc (Nat.le_refl _) _).drew
  have HZ := Lib.hid hZs
  clear hZs
  go_enter Try.func21, Try.ntmps21
  go_wp2_with (at_builtin; refine Lib.wpList_append_run _ rfl _ _ _ _ rfl _ _ rfl rfl _ _ happ ?_)
  go_wp2
  go_ret
  exact ⟨_, _, rfl, hcapge, hrow, hb⟩

set_option maxHeartbeats 2000000 in
set_option maxRecDepth 100000 in
theorem concat_far (A : Option Addr) (ls : List (List UInt8)) (c : Nat) (w : World) (hA : Ms w w.heap.size A ls) (hp : 0 < tot ls) (hl : tot ls ≤ 281474976710656) (hll : ls.length ≤ 140737488355328) :
    Calls Try.prog 12 #[.slice A ls.length c] w fun e w' => ∃ v, e = .returned v ∧ Row w.heap.size w' v ls.flatten ∧ Below w.heap.size w w' := by
  go_enter Try.func12, Try.ntmps12
  go_wp2
  go_loop [3, 11] (fun v i => ∃ k : Nat, k ≤ ls.length ∧ i = .int .i64 k ∧ v = .int .i64 (tot (ls.take k) : Int)) (fun _ i => ls.length - (intOf i).toNat)
  case atStart => exact ⟨0, Nat.zero_le _, rfl, rfl⟩
  case round =>
    obtain ⟨k, hk, rfl, rfl⟩ := hrel
    by_cases hlt : k < ls.length
    · obtain ⟨ad, a, c1, rfl, hadb, hcell, _, _⟩ := hA.at_ hlt
      obtain ⟨t1, t2⟩ := tot_take ls k hlt
      have HT := Lib.hid t1
      clear t1 hA
      generalize tot (ls.take k) = T at *
      generalize hrl : ls[k].length = L at *
      have HL := Lib.hid hrl
      clear hrl
      have g0 : decide ((T : Int) + L < 0) = false := decide_eq_false (by omega)
      go_wp2
      go_round
      case rel => exact ⟨k + 1, by omega, by go_num, by rw [HT.out]; go_num⟩
      case measure => simp [intOf]; omega
    · obtain rfl : k = ls.length := by omega
      rw [List.take_length]
      have HG := Lib.hid (grow_far (tot ls) w hp hl)
      go_wp2_with fail
      refine HG.out.mono ?_
      clear HG
      rintro e w1 ⟨g, cap, rfl, hcap, r1, b1⟩
      go_wp2
      go_loopw [6, 27] (fun v i wr => ∃ (k : Nat), k ≤ ls.length ∧ i = .int .i64 k ∧ v = .slice (some ⟨g, 0, none⟩) (tot (ls.take k)) cap ∧ Row w.heap.size wr (.slice (some ⟨g, 0, none⟩) (tot (ls.take k)) cap) (ls.take k).flatten ∧ Below w.heap.size w wr) (fun _ i _ => ls.length - (intOf i).toNat)
      case atStart => exact ⟨0, Nat.zero_le _, rfl, rfl, r1, b1⟩
      case round =>
        clear r1 b1
        obtain ⟨k, hk, rfl, rfl, hrow, hb⟩ := hrel
        by_cases hlt : k < ls.length
        · obtain ⟨ad, a, c1, rfl, hadb, hcell, hBs, _⟩ := (hA.below hb).at_ hlt
          obtain ⟨t1, t2⟩ := tot_take ls k hlt
          have hfl := tot_flatten (ls.take k)
          have hfit : tot (ls.take k) + ls[k].length ≤ cap := by omega
          have HF := Lib.hid (show (ls.take (k + 1)).flatten = (ls.take k).flatten ++ ls[k] by rw [List.take_succ_eq_append_getElem hlt, List.flatten_append]; simp)
          have hsz := hb.size
          have HB := Lib.hid hBs
          have HT := Lib.hid t1
          clear t1 t2 hBs hA
          generalize (ls.take k).flatten = F at *
          generalize tot (ls.take k) = T at *
          generalize ls[k] = row at *
          have hfl2 : T = F.length := hfl.symm
          have HFl := Lib.hid hfl2
          clear hfl hfl2
          go_wp2_with (at_builtin; go_must (refine appFit rfl (.tmp 31) (.tmp 32) rfl w.heap.size _ g T cap F HFl.out rfl hrow a row c1 rfl HB.out hfit hsz ?_))
          intro w2 hr2 hb2
          go_wp2
          go_roundw
          case rel => exact ⟨k + 1, by omega, by go_num, by rw [HT.out], by rw [HF.out, HT.out]; exact hr2, hb.trans hb2⟩
          case measure => simp [intOf]; omega
        · obtain rfl : k = ls.length := by omega
          have hfl : (ls.take ls.length).flatten = ls.flatten := by rw [List.take_length]
          rw [hfl] at hrow
          go_wp2
          go_ret
          exact ⟨_, rfl, hrow, hb⟩

/-- 'slices.Concat(x, y)' of two slices that have just been laid side by side. -/
theorem concat_far2 (W : World) (a1 a2 : Option Addr) (l1 l2 : List UInt8) (c1 c2 : Nat) (h1 : Bs W W.heap.size a1 l1) (h2 : Bs W W.heap.size a2 l2) (hc1 : l1.length ≤ c1) (hc2 : l2.length ≤ c2) (hl : l1.length + l2.length ≤ 281474976710656) (B : Nat) (hB : B ≤ W.heap.size) (V : World) (hV : V = W.alloc (.cells #[.slice a1 l1.length c1, .slice a2 l2.length c2] 22)) :
    Calls Try.prog 12 #[.slice (some ⟨W.heap.size, 0, none⟩) 2 2] V fun e w' => ∃ A c, e = .returned (.slice A (l1 ++ l2).length c) ∧ Bs w' w'.heap.size A (l1 ++ l2) ∧ (l1 ++ l2).length ≤ c ∧ Below B W w' := by
  by_cases h47 : l1.length + l2.length ≤ 140737488355328
  · exact concat2 W a1 a2 l1 l2 c1 c2 h1 h2 hc1 hc2 h47 B hB V hV
  · subst hV
    have hm := Ms.laid2 W a1 a2 l1 l2 _ _ c1 c2 rfl rfl h1 h2 hc1 hc2 (0, 0) (W.heap.size + 1) (by omega)
    refine (concat_far (some ⟨W.heap.size, 0, none⟩) [l1, l2] 2 _ (by simpa using hm) (by simp [tot]; omega) (by simp [tot]; omega) (by simp)).mono ?_
    rintro e w' ⟨v, rfl, r, b⟩
    obtain ⟨A, c, rfl, s, hc⟩ := r.form2
    simp only [List.flatten_cons, List.flatten_nil, List.append_nil] at s hc ⊢
    refine ⟨A, c, rfl, s, hc, (((Below.refl B W).alloc hB _).trans (b.mono ?_))⟩
    simp
    omega
end Go.Proofs.Ytohpgfefdlccmaa.SConcatY
