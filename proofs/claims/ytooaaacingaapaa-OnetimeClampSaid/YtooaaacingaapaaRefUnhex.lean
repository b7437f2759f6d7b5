/-
  ticketwardref.AUnhex: it hands back what text.Unhex does. Conditions: none.
-/
import Derived.Test.YtooaaacingaapaaKb
import Derived.Test.YtooaaacingaapaaKa
import Derived.Test.YtooaaacingaapaaTextDig
import Derived.WalkKit
import Derived.BigCall
import Derived.Lib.Hide
import Derived.Outline
import Derived.Deep.DeepMust
namespace Go.Proofs.Ytooaaacingaapaa.RefUnhexW
open Go.RowKit BytesW

/-- The digits' numbers, if all are digits. -/
def digs : List UInt8 → Option (List Nat)
  | [] => some []
  | c :: r => match TextM.dig c with
    | none => none
    | some n => match digs r with
      | none => none
      | some ns => some (n :: ns)

def hi (x : Nat) : UInt8 := UInt8.ofNat (16 * x)
/-- Digits two by two; a last one alone is a high half. -/
def U : List Nat → List UInt8
  | [] => []
  | [x] => [hi x]
  | x :: y :: r => TextM.pair x y :: U r

theorem digs_snoc (g : List UInt8) (c : UInt8) (ns : List Nat) (n : Nat) (h : digs g = some ns) (hc : TextM.dig c = some n) : digs (g ++ [c]) = some (ns ++ [n]) := by
  induction g generalizing ns with
  | nil =>
    simp only [digs, Option.some.injEq] at h
    subst h
    simp [digs, hc]
  | cons x r ih =>
    simp only [digs, List.cons_append] at h ⊢
    cases hx : TextM.dig x with
    | none => rw [hx] at h; cases h
    | some m =>
      rw [hx] at h
      cases hr : digs r with
      | none => simp [hr] at h
      | some ms =>
        simp only [hr, Option.some.injEq] at h
        subst h
        simp [ih ms hr]

theorem digs_bad (g : List UInt8) (k : Nat) (h : k < g.length) (hc : TextM.dig g[k] = none) : digs g = none := by
  induction g generalizing k with
  | nil => simp at h
  | cons x r ih =>
    simp only [digs]
    cases k with
    | zero => simp at hc; simp [hc]
    | succ k =>
      cases hx : TextM.dig x with
      | none => rfl
      | some m => simp [ih k (by simpa using h) (by simpa using hc)]

theorem digs_length {g : List UInt8} {ns : List Nat} (h : digs g = some ns) : ns.length = g.length := by
  induction g generalizing ns with
  | nil => simp only [digs, Option.some.injEq] at h; subst h; rfl
  | cons x r ih =>
    simp only [digs] at h
    cases hx : TextM.dig x with
    | none => rw [hx] at h; cases h
    | some m =>
      rw [hx] at h
      cases hr : digs r with
      | none => simp [hr] at h
      | some ms =>
        simp only [hr, Option.some.injEq] at h
        subst h
        simp [ih hr]

theorem U_length (ds : List Nat) : (U ds).length = (ds.length + 1) / 2 := by
  induction ds using U.induct with
  | case1 => rfl
  | case2 x => simp [U]
  | case3 x y r ih => simp [U, ih]; omega

theorem U_even (ds : List Nat) (x : Nat) (h : ds.length % 2 = 0) : U (ds ++ [x]) = U ds ++ [hi x] := by
  induction ds using U.induct with
  | case1 => rfl
  | case2 y => simp at h
  | case3 a b r ih =>
    have := ih (by simp at h; omega)
    simp [U, this]

theorem U_odd (ds : List Nat) (x : Nat) (h : ds.length % 2 = 1) : ∃ (y : Nat) (h' : ds.length / 2 < (U ds).length), y ∈ ds ∧ (U ds)[ds.length / 2] = hi y ∧ U (ds ++ [x]) = (U ds).set (ds.length / 2) (TextM.pair y x) := by
  induction ds using U.induct with
  | case1 => simp at h
  | case2 y => exact ⟨y, by simp [U], by simp, by simp [U], by simp [U]⟩
  | case3 a b r ih =>
    obtain ⟨y, h', hm, hg, hs⟩ := ih (by simp at h; omega)
    have e : (a :: b :: r).length / 2 = r.length / 2 + 1 := by simp; omega
    have hl : (a :: b :: r).length / 2 < (U (a :: b :: r)).length := by rw [e]; simp [U]; exact h'
    refine ⟨y, hl, by simp [hm], ?_, ?_⟩
    · simp only [U, e]
      simpa using hg
    · simp only [List.cons_append, U, e, List.set_cons_succ, hs]

theorem unhexF_digs (acc s : List UInt8) : TextM.unhexF acc s = match digs s with
    | none => (1, [])
    | some ds => if s.length % 2 = 1 then (8, []) else (0, acc ++ U ds) := by
  induction acc, s using TextM.unhexF.induct with
  | case1 acc => simp [TextM.unhexF, digs, U]
  | case2 acc a hd => simp [TextM.unhexF, digs, hd]
  | case3 acc a x hd => simp [TextM.unhexF, digs, hd]
  | case4 acc a b r hd => simp [TextM.unhexF, digs, hd]
  | case5 acc a b r x hd hd2 => simp [TextM.unhexF, digs, hd, hd2]
  | case6 acc a b r x hd y hd2 ih =>
    simp only [TextM.unhexF, hd, hd2, digs, ih]
    cases hr : digs r with
    | none => rfl
    | some ms =>
      have e : (a :: b :: r).length % 2 = r.length % 2 := by simp; omega
      simp only [e]
      by_cases h : r.length % 2 = 1
      · simp [h]
      · simp [h, U]

theorem digs_lt {g : List UInt8} {ns : List Nat} (h : digs g = some ns) : ∀ n ∈ ns, n < 16 := by
  induction g generalizing ns with
  | nil => simp only [digs, Option.some.injEq] at h; subst h; simp
  | cons x r ih =>
    simp only [digs] at h
    cases hx : TextM.dig x with
    | none => rw [hx] at h; cases h
    | some m =>
      rw [hx] at h
      cases hr : digs r with
      | none => simp [hr] at h
      | some ms =>
        simp only [hr, Option.some.injEq] at h
        subst h
        intro n hn
        simp only [List.mem_cons] at hn
        rcases hn with rfl | hn
        · exact TextM.dig_lt hx
        · exact ih hr n hn

theorem ret1 {k : IntKind} {a b : Int} (h : a = b) : Ending.returned (.int k a) = Ending.returned (.int k b) := by rw [h]

set_option maxHeartbeats 400000 in
theorem digit_some (c : UInt8) (n : Nat) (hn : TextM.dig c = some n) (w : World) :
    Calls Try.prog 30 #[.int .u8 (c.toNat : Int)] w fun e w' => e = .returned (.int .i64 (n : Int)) ∧ w = w' := by
  have hx := c.toNat_lt
  obtain ⟨x, e, h⟩ := TextUnhexW.dig_cases hn
  rw [e] at hx ⊢
  clear e hn
  have H := Lib.hid h
  rcases h with ⟨h1, h2, h3⟩ | ⟨h1, h2, h3⟩ <;> clear h3
  all_goals
    go_enter Try.func30, Try.ntmps30
    go_wp2
    go_ret
    exact ⟨ret1 (by have := H.out; omega), rfl⟩

set_option maxHeartbeats 400000 in
theorem digit_none (c : UInt8) (hn : TextM.dig c = none) (w : World) :
    Calls Try.prog 30 #[.int .u8 (c.toNat : Int)] w fun e w' => e = .returned (.int .i64 (-1)) ∧ w = w' := by
  have hx := c.toNat_lt
  obtain ⟨x, e, h⟩ := TextUnhexW.dig_none hn
  rw [e] at hx ⊢
  clear e hn
  rcases h with h1 | ⟨h1, h2⟩ | h1
  all_goals
    go_enter Try.func30, Try.ntmps30
    go_wp2
    go_ret
    exact ⟨rfl, rfl⟩

set_option maxHeartbeats 4000000 in
set_option maxRecDepth 100000 in
theorem unhex_ref (s : ByteArray) (w : World) (hs : s.size ≤ maxLen) :
    Calls Try.prog 18 #[.string s] w fun e w' => ∃ v, e = .returned (.tuple #[v, .int .i64 ((TextM.unhex s.data.toList).1 : Int)]) ∧
      Row w.heap.size w' v (TextM.unhex s.data.toList).2 ∧ Below w.heap.size w w' := by
  unfold maxLen at hs
  have hsz : s.data.toList.length = s.size := by rw [Array.length_toList]; rfl
  by_cases hbig : 32768 < s.size
  · have hu : TextM.unhex s.data.toList = (2, []) := by unfold TextM.unhex; rw [if_pos (by omega)]
    rw [hu]
    clear hu hsz
    go_enter Try.func18, Try.ntmps18
    go_wp2
    go_ret2
    exact ⟨_, rfl, Row.nil _ _, Below.refl _ _⟩
  · have hu : TextM.unhex s.data.toList = TextM.unhexF [] s.data.toList := by unfold TextM.unhex; rw [if_neg (by omega)]
    rw [unhexF_digs] at hu
    have Rbad := Lib.hid (fun h : digs s.data.toList = none => show TextM.unhex s.data.toList = (1, []) by rw [hu, h])
    have Rodd := Lib.hid (fun ds (h : digs s.data.toList = some ds) (h2 : s.size % 2 = 1) => show TextM.unhex s.data.toList = (8, []) by rw [hu, h]; simp only; rw [hsz, if_pos h2])
    have Rok := Lib.hid (fun ds (h : digs s.data.toList = some ds) (h2 : s.size % 2 = 0) => show TextM.unhex s.data.toList = (0, U ds) by rw [hu, h]; simp only; rw [hsz, if_neg (by omega)]; rfl)
    clear hu
    generalize TextM.unhex s.data.toList = R at *
    have HS := Lib.hid hsz; clear hsz
    go_enter Try.func18, Try.ntmps18
    go_wp2
    go_loopw [4, 12] (fun v i wr => ∃ (k : Nat) (ds : List Nat), k ≤ s.size ∧ i = .int .i64 (k : Int) ∧ digs (s.data.toList.take k) = some ds ∧
        Row w.heap.size wr v (U ds) ∧ Below w.heap.size w wr) (fun _ i _ => s.size - (intOf i).toNat)
    case atStart => exact ⟨0, [], by omega, rfl, rfl, Row.nil _ _, Below.refl _ _⟩
    case round =>
      obtain ⟨k, ds, hk, rfl, hD, hrow, hb⟩ := hrel
      have hdl := digs_length hD
      rw [List.length_take, HS.out, Nat.min_eq_left hk] at hdl
      have HD := Lib.hid hD; clear hD
      have HL := Lib.hid hdl; clear hdl
      by_cases hlt : k < s.size
      · cases hd : TextM.dig s[k] with
        | none =>
          have Hfin := Lib.hid (digs_bad s.data.toList k (by rw [HS.out]; exact hlt) hd)
          go_wp2_with fail
          refine (digit_none _ hd wr).mono ?_
          rintro e w' ⟨rfl, rfl⟩
          clear hd
          go_wp2
          go_ret2
          rw [Rbad.out Hfin.out]
          exact ⟨_, rfl, Row.nil _ _, hb⟩
        | some x =>
          have hx := TextM.dig_lt hd
          have hds : digs (s.data.toList.take (k + 1)) = some (ds ++ [x]) := by
            rw [TextM.take_snoc _ k (by rw [HS.out]; exact hlt)]
            exact digs_snoc _ _ _ _ HD.out hd
          have HD' := Lib.hid hds; clear hds
          by_cases hev : k % 2 = 0
          · have ht : ((k : Int) % 2 == 0) = true := beq_iff_eq.2 (by omega)
            go_wp2_with fail
            refine (digit_some _ x hd wr).mono ?_
            rintro e w' ⟨rfl, rfl⟩
            clear hd
            have hU := Lib.hid (U_even ds x (by rw [HL.out]; exact hev))
            have hl2 : (U ds).length + 1 ≤ 140737488355328 := by rw [U_length, HL.out]; omega
            have hnew := new1 wr ((x : Int) * 16) (hi x) (by unfold hi; rw [UInt8.toNat_ofNat']; omega)
            have hB := hb.size
            generalize U ds = uds at *
            go_wp2_with (at_builtin; go_must (refine app1 rfl (.tmp 24) (.tmp 28) rfl w.heap.size _ uds rfl (hrow.alloc _) ⟨wr.heap.size, 0, none⟩ 1 (hi x) rfl hnew hl2 (by simp; omega) ?_))
            intro v' w' hrow' hb'
            clear hnew
            go_wp2
            go_roundw
            case rel => exact ⟨k + 1, _, by omega, by go_num, HD'.out, by rw [hU.out]; exact hrow', (hb.alloc hB _).trans hb'⟩
            case measure => simp [intOf]; omega
          · have ht : ((k : Int) % 2 == 0) = false := beq_eq_false_iff_ne.2 (by omega)
            go_wp2_with fail
            refine (digit_some _ x hd wr).mono ?_
            rintro e w' ⟨rfl, rfl⟩
            clear hd
            obtain ⟨y, hj, hm, hg, hsn⟩ := U_odd ds x (by rw [HL.out]; omega)
            have hy := digs_lt HD.out y hm
            obtain ⟨A, c, rfl, _, _⟩ := hrow.form2
            obtain ⟨g, rfl, _, hBg, hgs, hcell, hfz⟩ := hrow.place (by omega)
            have hck := hcell (ds.length / 2) hj
            have hfk := hfz (ds.length / 2)
            rw [hg] at hck
            have hjU : ds.length / 2 < (U ds).length := hj
            rw [show ((hi y).toNat : Int) = (y : Int) * 16 from by unfold hi; rw [UInt8.toNat_ofNat']; omega] at hck
            have rset := hrow.set (ds.length / 2) (TextM.pair y x) ((y : Int) * 16 + x) (by unfold TextM.pair; rw [UInt8.toNat_ofNat']; omega)
            have b10 := hb.setCell (p := ⟨g, ds.length / 2, none⟩) hBg (.int .u8 ((y : Int) * 16 + x))
            have hidx : (ds.length / 2 : Nat) = k / 2 := by rw [HL.out]
            rw [hidx] at hck hfk rset b10 hjU hsn
            have hUl : (U (ds ++ [x])).length = (U ds).length := by rw [hsn, List.length_set]
            rw [List.length_set] at rset
            have hUs := Lib.hid hsn
            clear hcell hfz hg hm hj hsn
            generalize hq : k / 2 = q at *
            have hqk : (k : Int) / 2 = (q : Int) := by omega
            clear hq hidx
            go_wp2
            go_roundw
            case rel => exact ⟨k + 1, ds ++ [x], by omega, by go_num, HD'.out, by rw [hUs.out]; exact rset, b10⟩
            case measure => simp [intOf]; omega
      · obtain rfl : k = s.size := by omega
        have hD := HD.out
        rw [← HS.out, List.take_length] at hD
        by_cases hev : s.size % 2 = 0
        · have ht : ((s.size : Int) % 2 == 1) = false := beq_eq_false_iff_ne.2 (by omega)
          have HR := Lib.hid (Rok.out ds hD hev)
          go_wp2
          go_ret2
          rw [HR.out]
          exact ⟨_, rfl, hrow, hb⟩
        · have ht : ((s.size : Int) % 2 == 1) = true := beq_iff_eq.2 (by omega)
          have HR := Lib.hid (Rodd.out ds hD (by omega))
          go_wp2
          go_ret2
          rw [HR.out]
          exact ⟨_, rfl, Row.nil _ _, hb⟩
end Go.Proofs.Ytooaaacingaapaa.RefUnhexW
