/-
  ticketwardref.ALetter and AUncode: AUncode hands back what text.Uncode does. Conditions: none.
-/
import Derived.Test.YtnbchnaehmbfcaaTextQ
import Derived.Test.YtnbchnaehmbfcaaTextGroup
namespace Go.Proofs.Ytnbchnaehmbfcaa.RefUncodeW
open Go.RowKit BytesW TextGroupW

theorem ret1 {k : IntKind} {a b : Int} (h : a = b) : Ending.returned (.int k a) = Ending.returned (.int k b) := by rw [h]

set_option maxHeartbeats 1000000 in
theorem letter_some (c : UInt8) (n : Nat) (hn : TextN.num c = some n) (w : World) :
    Calls Try.prog 26 #[.int .u8 (c.toNat : Int)] w fun e w' => e = .returned (.int .i64 (n : Int)) ∧ w = w' := by
  have hx := c.toNat_lt
  obtain ⟨x, e, h⟩ := num_cases hn
  rw [e] at hx ⊢
  clear e hn
  have H := Lib.hid h
  rcases h with ⟨h1, h2, h3⟩ | ⟨h1, h2, h3⟩ | ⟨h1, h2, h3⟩ | ⟨rfl, rfl⟩ | ⟨rfl, rfl⟩
  · clear h3
    go_enter Try.func26, Try.ntmps26
    go_wp2
    go_ret
    exact ⟨ret1 (by have := H.out; omega), rfl⟩
  · clear h3
    go_enter Try.func26, Try.ntmps26
    go_wp2
    go_ret
    exact ⟨ret1 (by have := H.out; omega), rfl⟩
  · clear h3
    go_enter Try.func26, Try.ntmps26
    go_wp2
    go_ret
    exact ⟨ret1 (by have := H.out; omega), rfl⟩
  · go_enter Try.func26, Try.ntmps26
    go_wp2
    go_ret
    exact ⟨rfl, rfl⟩
  · go_enter Try.func26, Try.ntmps26
    go_wp2
    go_ret
    exact ⟨rfl, rfl⟩

set_option maxHeartbeats 1000000 in
theorem letter_none (c : UInt8) (hn : TextN.num c = none) (w : World) :
    Calls Try.prog 26 #[.int .u8 (c.toNat : Int)] w fun e w' => e = .returned (.int .i64 (-1)) ∧ w = w' := by
  have hx := c.toNat_lt
  obtain ⟨x, e, h⟩ := num_none hn
  rw [e] at hx ⊢
  clear e hn
  have h45 : ((x : Int) == 45) = false := beq_eq_false_iff_ne.2 (by omega)
  have h95 : ((x : Int) == 95) = false := beq_eq_false_iff_ne.2 (by omega)
  rcases h with h1 | ⟨h1, h2⟩ | ⟨h1, h2⟩ | ⟨h1, h2⟩ | ⟨h1, h2⟩ | h1
  all_goals
    go_enter Try.func26, Try.ntmps26
    go_wp2
    go_ret
    exact ⟨rfl, rfl⟩

/-- How many bits are left behind so many letters. -/
def mm (n : Nat) : Int := if n % 4 = 0 then 0 else if n % 4 = 1 then 6 else if n % 4 = 2 then 4 else 2

set_option maxHeartbeats 4000000 in
set_option maxRecDepth 100000 in
theorem uncode_ref (s : ByteArray) (w : World) (hs : s.size ≤ maxLen) :
    Calls Try.prog 16 #[.string s] w fun e w' => ∃ v, e = .returned (.tuple #[v, .int .i64 ((TextN.uncode s.data.toList).1 : Int)]) ∧
      Row w.heap.size w' v (TextN.uncode s.data.toList).2 ∧ Below w.heap.size w w' := by
  unfold maxLen at hs
  have hsz : s.data.toList.length = s.size := by rw [Array.length_toList]; rfl
  by_cases hbig : 32768 < s.size
  · have hu : TextN.uncode s.data.toList = (2, []) := if_pos (by omega)
    rw [hu]
    clear hu hsz
    go_enter Try.func16, Try.ntmps16
    go_wp2
    go_ret2
    exact ⟨_, rfl, Row.nil _ _, Below.refl _ _⟩
  · have hu : TextN.uncode s.data.toList = TextN.uncodeF [] s.data.toList := if_neg (by omega)
    have Rbad := Lib.hid (fun h : TextN.nums s.data.toList = none => show TextN.uncode s.data.toList = (1, []) by rw [hu, TextQ.uncodeF_form _ _ h])
    have Rok := Lib.hid (fun ns (h : TextN.nums s.data.toList = some ns) => show TextN.uncode s.data.toList = TextQ.res [] ns by rw [hu, TextQ.uncodeF_res _ _ _ h])
    clear hu
    generalize TextN.uncode s.data.toList = R at *
    have HS := Lib.hid hsz; clear hsz
    go_enter Try.func16, Try.ntmps16
    go_wp2
    go_loopw [4, 5, 6, 14] (fun v nv mv i wr => ∃ (k : Nat) (ns : List Nat), k ≤ s.size ∧ i = .int .i64 (k : Int) ∧ TextN.nums (s.data.toList.take k) = some ns ∧ nv = .int .i64 (TextQ.sn ns : Int) ∧ mv = .int .i64 (mm ns.length) ∧
        Row w.heap.size wr v (TextQ.so ns) ∧ Below w.heap.size w wr) (fun _ _ _ i _ => s.size - (intOf i).toNat)
    case atStart => exact ⟨0, [], by omega, rfl, rfl, rfl, rfl, Row.nil _ _, Below.refl _ _⟩
    case round =>
      obtain ⟨k, ns, hk, rfl, hD, rfl, hmv, hrow, hb⟩ := hrel
      have hdl := TextN.nums_length hD
      rw [List.length_take, HS.out, Nat.min_eq_left hk] at hdl
      have hnl := TextQ.sn_lt ns (TextN.nums_lt hD)
      have HD := Lib.hid hD; clear hD
      have HL := Lib.hid hdl
      by_cases hlt : k < s.size
      · cases hd : TextN.num s[k] with
        | none =>
          subst hmv
          have Hfin := Lib.hid (TextN.nums_bad s.data.toList k (by rw [HS.out]; exact hlt) hd)
          clear hdl hnl
          go_wp2_with fail
          refine (letter_none _ hd wr).mono ?_
          rintro e w' ⟨rfl, rfl⟩
          clear hd
          go_wp2
          go_ret2
          rw [Rbad.out Hfin.out]
          exact ⟨_, rfl, Row.nil _ _, hb⟩
        | some x =>
          have hx := TextN.num_lt hd
          have hds : TextN.nums (s.data.toList.take (k + 1)) = some (ns ++ [x]) := by
            rw [TextN.take_snoc _ k (by rw [HS.out]; exact hlt)]
            exact TextN.nums_snoc _ _ _ _ HD.out hd
          have HD' := Lib.hid hds; clear hds
          have HX := Lib.hid hd
          have hl2 : (TextQ.so ns).length + 1 ≤ 140737488355328 := by have := TextQ.so_length ns; omega
          have hB := hb.size
          rcases (show ns.length % 4 = 0 ∨ ns.length % 4 = 1 ∨ ns.length % 4 = 2 ∨ ns.length % 4 = 3 from by omega) with h4 | h4 | h4 | h4
          · obtain ⟨q1, q2, q3⟩ := TextQ.s0 ns x h4
            rw [show mm ns.length = 0 from by unfold mm; rw [if_pos h4]] at hmv
            subst hmv
            rw [q3]
            have hm1 : mm (ns ++ [x]).length = 6 := by rw [List.length_append]; unfold mm; rw [if_neg (by simp; omega), if_pos (by simp; omega)]
            have Q := Lib.hid (And.intro hm1 (And.intro q1 q2))
            clear hdl hnl h4 hd q1 q2 q3 hm1
            go_wp2_with fail
            refine (letter_some _ x HX.out wr).mono ?_
            rintro e w' ⟨rfl, rfl⟩
            go_wp2
            go_roundw
            case rel => exact ⟨k + 1, ns ++ [x], by omega, by go_num, HD'.out, by rw [Q.out.2.2], by rw [Q.out.1], by rw [Q.out.2.1]; exact hrow, hb⟩
            case measure => simp [intOf]; omega
          · obtain ⟨q1, q2⟩ := TextQ.s1 ns x h4
            rw [show mm ns.length = 6 from by unfold mm; rw [if_neg (by omega), if_pos h4]] at hmv
            subst hmv
            have hnn := hnl.2.1 h4
            have hm1 : mm (ns ++ [x]).length = 4 := by rw [List.length_append]; unfold mm; rw [if_neg (by simp; omega), if_neg (by simp; omega), if_pos (by simp; omega)]
            have Q := Lib.hid (And.intro hm1 (And.intro q1 q2))
            clear hdl hnl h4 hd q1 q2 hm1
            generalize TextQ.sn ns = N at *
            have hnew := new1 wr (((N : Int) * 64 + x) / 16) (TextQ.bt ((N * 64 + x) / 16)) (by unfold TextQ.bt; rw [UInt8.toNat_ofNat']; omega)
            go_wp2_with fail
            refine (letter_some _ x HX.out wr).mono ?_
            rintro e w' ⟨rfl, rfl⟩
            generalize TextQ.so ns = out at *
            go_wp2_with (at_builtin; go_must (refine app1 rfl (.tmp 33) (.tmp 38) rfl w.heap.size _ out rfl (hrow.alloc _) ⟨wr.heap.size, 0, none⟩ 1 (TextQ.bt ((N * 64 + x) / 16)) rfl hnew hl2 (by simp; omega) ?_))
            intro v' w' hrow' hb'
            clear hnew
            go_wp2
            go_roundw
            case rel => exact ⟨k + 1, ns ++ [x], by omega, by go_num, HD'.out, by rw [Q.out.2.2]; go_num, by rw [Q.out.1], by rw [Q.out.2.1]; exact hrow', (hb.alloc hB _).trans hb'⟩
            case measure => simp [intOf]; omega
          · obtain ⟨q1, q2⟩ := TextQ.s2 ns x h4
            rw [show mm ns.length = 4 from by unfold mm; rw [if_neg (by omega), if_neg (by omega), if_pos h4]] at hmv
            subst hmv
            have hnn := hnl.2.2.1 h4
            have hm1 : mm (ns ++ [x]).length = 2 := by rw [List.length_append]; unfold mm; rw [if_neg (by simp; omega), if_neg (by simp; omega), if_neg (by simp; omega)]
            have Q := Lib.hid (And.intro hm1 (And.intro q1 q2))
            clear hdl hnl h4 hd q1 q2 hm1
            generalize TextQ.sn ns = N at *
            have hnew := new1 wr (((N : Int) * 64 + x) / 4) (TextQ.bt ((N * 64 + x) / 4)) (by unfold TextQ.bt; rw [UInt8.toNat_ofNat']; omega)
            go_wp2_with fail
            refine (letter_some _ x HX.out wr).mono ?_
            rintro e w' ⟨rfl, rfl⟩
            generalize TextQ.so ns = out at *
            go_wp2_with (at_builtin; go_must (refine app1 rfl (.tmp 33) (.tmp 38) rfl w.heap.size _ out rfl (hrow.alloc _) ⟨wr.heap.size, 0, none⟩ 1 (TextQ.bt ((N * 64 + x) / 4)) rfl hnew hl2 (by simp; omega) ?_))
            intro v' w' hrow' hb'
            clear hnew
            go_wp2
            go_roundw
            case rel => exact ⟨k + 1, ns ++ [x], by omega, by go_num, HD'.out, by rw [Q.out.2.2]; go_num, by rw [Q.out.1], by rw [Q.out.2.1]; exact hrow', (hb.alloc hB _).trans hb'⟩
            case measure => simp [intOf]; omega
          · obtain ⟨q1, q2⟩ := TextQ.s3 ns x h4
            rw [show mm ns.length = 2 from by unfold mm; rw [if_neg (by omega), if_neg (by omega), if_neg (by omega)]] at hmv
            subst hmv
            have hnn := hnl.2.2.2 h4
            have hm1 : mm (ns ++ [x]).length = 0 := by rw [List.length_append]; unfold mm; rw [if_pos (by simp; omega)]
            have Q := Lib.hid (And.intro hm1 (And.intro q1 q2))
            clear hdl hnl h4 hd q1 q2 hm1
            generalize TextQ.sn ns = N at *
            have hnew := new1 wr ((N : Int) * 64 + x) (TextQ.bt (N * 64 + x)) (by unfold TextQ.bt; rw [UInt8.toNat_ofNat']; omega)
            go_wp2_with fail
            refine (letter_some _ x HX.out wr).mono ?_
            rintro e w' ⟨rfl, rfl⟩
            generalize TextQ.so ns = out at *
            go_wp2_with (at_builtin; go_must (refine app1 rfl (.tmp 33) (.tmp 38) rfl w.heap.size _ out rfl (hrow.alloc _) ⟨wr.heap.size, 0, none⟩ 1 (TextQ.bt (N * 64 + x)) rfl hnew hl2 (by simp; omega) ?_))
            intro v' w' hrow' hb'
            clear hnew
            go_wp2
            go_roundw
            case rel => exact ⟨k + 1, ns ++ [x], by omega, by go_num, HD'.out, by rw [Q.out.2.2]; go_num, by rw [Q.out.1], by rw [Q.out.2.1]; exact hrow', (hb.alloc hB _).trans hb'⟩
            case measure => simp [intOf]; omega
      · obtain rfl : k = s.size := by omega
        have hD := HD.out
        rw [← HS.out, List.take_length] at hD
        have HR := Rok.out ns hD
        have h6 : mm ns.length = 6 ∧ ns.length % 4 = 1 ∨ mm ns.length < 6 ∧ ¬ ns.length % 4 = 1 := by unfold mm; split <;> (try split) <;> (try split) <;> omega
        unfold TextQ.res at HR
        clear hnl hdl
        rcases h6 with ⟨e6, h1⟩ | ⟨e6, h1⟩
        · rw [if_pos h1] at HR
          have HR' := Lib.hid HR; clear HR h1
          rw [e6] at hmv
          subst hmv
          go_wp2
          go_ret2
          rw [HR'.out]
          exact ⟨_, rfl, Row.nil _ _, hb⟩
        · rw [if_neg h1] at HR
          subst hmv
          generalize mm ns.length = M at *
          by_cases h0 : TextQ.sn ns = 0
          · rw [if_neg (fun h => h h0)] at HR
            have HR' := Lib.hid HR; clear HR h1
            rw [h0]
            go_wp2
            go_ret2
            rw [HR'.out]
            exact ⟨_, rfl, hrow, hb⟩
          · rw [if_pos h0] at HR
            have HR' := Lib.hid HR; clear HR h1
            have hne : ((TextQ.sn ns : Int) != 0) = true := by rw [bne_iff_ne]; omega
            go_wp2
            go_ret2
            rw [HR'.out]
            exact ⟨_, rfl, Row.nil _ _, hb⟩
end Go.Proofs.Ytnbchnaehmbfcaa.RefUncodeW
