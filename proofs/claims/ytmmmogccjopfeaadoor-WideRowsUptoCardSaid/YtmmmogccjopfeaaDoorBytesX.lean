/-
  More words for byte slices at this program: append of one byte that keeps what was there; under a guard too. Conditions: in each statement.
-/
import Derived.Test.YtmmmogccjopfeaaDoorBytesW
import Derived.BigFrame
import Derived.Laws.OwnMore
import Derived.ArgAppend
import Derived.Deep.DeepAppendRoom
namespace Go.Proofs.YtmmmogccjopfeaaDoor.BytesW
open Go.RowKit

theorem run_app1keep (w : World) (B : Nat) (ty : TypeId) (v : Value) (l : List UInt8) (hown : Row B w v l) (ad : Addr) (cp : Nat) (c : UInt8) (hc : w.cell? ad = some (.int .u8 (c.toNat : Int)))
    (hl : l.length + 1 ≤ 140737488355328) (hB : B ≤ w.heap.size) :
    ∃ v' w', (Builtin.append_ #[22, 22] ty #[v, .slice (some ad) 1 cp]).run Tryd.prog w = .ok v' w' ∧ Row B w' v' (l ++ [c]) ∧ Row B w' v l ∧ Below B w w' := by
  obtain ⟨i0, hi, hz0, hz1, hz2⟩ := info_parts infoByte
  have hn : ∀ j u, ([Value.int .u8 (c.toNat : Int)] : List Value)[j]? = some u → w.cell? (ad.add j) = some u := by
    intro j u hj
    match j, hj with
    | 0, hj => simp at hj; subst hj; rw [add_zero]; exact hc
  have h1 : ∀ u ∈ [Value.int .u8 (c.toNat : Int)], u.oneCell' = true := by intro u hu; simp at hu; subst hu; rfl
  have grow : ∀ (w' : World) (v' : Value) (B' : Nat), w'.ownsRow B' 5 1 v' (l.length + 1) (Lib.byteCells l ++ [.int .u8 (c.toNat : Int)]) → Row B' w' v' (l ++ [c]) := by
    intro w' v' B' h
    unfold Row
    rw [Lib.byteCells_append]
    simpa [Lib.byteCells] using h
  have hkeep := hown
  unfold Row at hown
  rcases hown.2 with ⟨rfl, h0⟩ | ⟨g, cap, cur, rfl, hbg, hg, hnc, hcm, hcs, htake⟩
  · obtain ⟨v', w', hr, h2, h3, _⟩ := run_append_own (P := Tryd.prog) w B 22 ty 5 i0 (.int .u8 0) 1 1 Tryd.underlying22 hi hz0 hz1 hz2 rfl (by decide) _ _ _ hown ad 1 cp _ rfl hn h1 (by unfold maxLen; omega) (by omega) hB
    exact ⟨v', w', hr, grow _ _ _ h2, ⟨hown.1, .inl ⟨rfl, h0⟩⟩, (Below.refl B w).grown h3 hB fun k hk => by simp [Value.ownBlock] at hk⟩
  · by_cases hroom : l.length + 1 ≤ cap
    · obtain ⟨w', hr, h2, h3⟩ := run_append_own_spare (P := Tryd.prog) w B 22 ty 5 i0 1 Tryd.underlying22 hi hz1 g l.length cap _ hown ad 1 cp _ rfl hn h1 hroom
      refine ⟨_, w', hr, grow _ _ _ h2, ?_, (Below.refl B w).grown h3 hB fun k hk => by cases hk; exact hbg⟩
      rcases h2.2 with ⟨he, _⟩ | ⟨g', cap', cur', he, hb', hg', hn', hm', hs', ht'⟩
      · cases he
      · cases he
        refine ⟨hown.1, .inr ⟨g, cap, cur', rfl, hbg, hg', hnc, hcm, hs', ?_⟩⟩
        have := congrArg (List.take (l.length * 1)) ht'
        rw [List.take_take, Nat.min_eq_left (by omega), List.take_left' (by rw [hown.1])] at this
        exact this
    · have hcells := World.ownsRow.cells hown (g := g) rfl
      obtain ⟨v', w', hr, h2, h3⟩ := run_append_arg_grows (P := Tryd.prog) w 22 ty 5 i0 (.int .u8 0) 1 1 Tryd.underlying22 hi hz0 hz1 hz2 rfl (by decide) ⟨g, 0, none⟩ l.length cap _ hown.1 hcells ad 1 cp _ rfl hn (by omega) (by unfold maxLen; omega) (by omega)
      have hb : Below w.heap.size w w' := ⟨h3.os, h3.tape, h3.output, h3.size, fun k hk => h3.block k hk (by simp)⟩
      refine ⟨v', w', hr, ?_, Row.below hkeep hb, hb.mono hB⟩
      have h4 := grow _ _ _ h2
      refine ⟨h4.1, ?_⟩
      rcases h4.2 with h5 | ⟨g', cap', cur', he, hb', hrest⟩
      · exact .inl h5
      · exact .inr ⟨g', cap', cur', he, Nat.le_trans hB hb', hrest⟩

/-- 'append(v, c)' of one byte, under a guard that holds: what v held reads as before. -/
theorem app1keep {w : World} {ops : Array Oper} {rest : List Oper} {o : Oper} {a : Act} {Q : Exit → Act → World → Prop} (hgd : Region.wanted o (yielded ops a.tmps) = true) (s x : Operand)
    (ho : o.op = .call { callee := .builtin .append, args := #[s, x], argTypes := #[22, 22] })
    (B : Nat) (v : Value) (l : List UInt8) (hs : a.eval s = v) (hown : Row B w v l)
    (ad : Addr) (cp : Nat) (c : UInt8) (hx : a.eval x = .slice (some ad) 1 cp) (hc : w.cell? ad = some (.int .u8 (c.toNat : Int)))
    (hl : l.length + 1 ≤ 140737488355328) (hB : B ≤ w.heap.size)
    (h : ∀ v' w', Row B w' v' (l ++ [c]) → Row B w' v l → Below B w w' → wpList Tryd.prog ops Q rest (a.put o.dst v') w') : wpList Tryd.prog ops Q (o :: rest) a w := by
  obtain ⟨v', w', hr, h1, h2, h3⟩ := run_app1keep w B o.type v l hown ad cp c hc hl hB
  refine wpList_step fun K hK => ?_
  rw [if_pos hgd]
  unfold Oper.wp execOp
  simp only [ho, resolve, invoke, builtin, Sem.run_bind, Sem.run_pure, Result.andThen_ok, List.map_toArray, List.map_cons, List.map_nil, hs, hx, hr]
  exact hK _ _ (h v' w' h1 h2 h3)

theorem byte_of (n : Int) (h0 : 0 ≤ n) (h1 : n ≤ 255) : ∃ y : UInt8, n = (y.toNat : Int) := ⟨UInt8.ofNat n.toNat, by rw [UInt8.toNat_ofNat']; omega⟩

/-- Where an owned row lies, and what is known of a place in it. -/
theorem Row.place {w : World} {B : Nat} {A : Option Addr} {n c : Nat} {l : List UInt8} (h : Row B w (.slice A n c) l) (h0 : 0 < l.length) :
    ∃ g, A = some ⟨g, 0, none⟩ ∧ n = l.length ∧ B ≤ g ∧ g < w.heap.size ∧ (∀ (k : Nat) (hk : k < l.length), w.cell? ⟨g, k, none⟩ = some (.int .u8 (l[k].toNat : Int))) ∧ (∀ k, w.frozen? ⟨g, k, none⟩ = false) := by
  have h' := h
  unfold Row at h
  rcases h.2 with ⟨_, h1⟩ | ⟨g, cap, cur, hv, hb, hg, _⟩
  · omega
  · cases hv
    refine ⟨g, rfl, rfl, hb, (Array.getElem?_eq_some_iff.1 hg).1, fun k hk => ?_, fun k => World.ownsRow.frozenAt h k⟩
    rw [World.ownsRow.cellAt h k (by omega)]
    simp [Lib.byteCells, List.getElem?_eq_getElem hk]

theorem Row.set {w : World} {B g c : Nat} {l : List UInt8} (h : Row B w (.slice (some ⟨g, 0, none⟩) l.length c) l) (k : Nat) (x : UInt8) (n : Int) (hn : n = (x.toNat : Int)) :
    Row B (w.setCell ⟨g, k, none⟩ (.int .u8 n)) (.slice (some ⟨g, 0, none⟩) (l.set k x).length c) (l.set k x) := by
  subst hn
  unfold Row at h ⊢
  have := (World.ownsRow.stored h k (.int .u8 (x.toNat : Int))).1
  rw [List.length_set]
  have e : Lib.byteCells (l.set k x) = (Lib.byteCells l).set k (.int .u8 (x.toNat : Int)) := by simp [Lib.byteCells, List.map_set]
  rw [e]
  exact this

theorem Row.form2 {w : World} {B : Nat} {v : Value} {l : List UInt8} (h : Row B w v l) : ∃ A c, v = .slice A l.length c ∧ Bs w w.heap.size A l ∧ l.length ≤ c := by
  obtain ⟨A, c, rfl, hb⟩ := h.form
  refine ⟨A, c, rfl, hb, ?_⟩
  unfold Row at h
  rcases h.2 with ⟨e, h0⟩ | ⟨g, cap, cur, e, _, _, hcap, _⟩
  · omega
  · cases e; omega

theorem cat_str (x y : List UInt8) : (⟨x.toArray⟩ ++ ⟨y.toArray⟩ : ByteArray) = ⟨(x ++ y).toArray⟩ := by
  apply ByteArray.ext
  simp

/-- 'make([]byte, c)'. -/
theorem makeN (c : Nat) (hc : c ≤ 140737488355328) (u : World) : (Instr.makeSlice 22 (.int .i64 (c : Int)) (.int .i64 (c : Int))).run Tryd.prog u =
    .ok (.slice (some ⟨u.heap.size, 0, none⟩) c c) (u.alloc (.cells (madeCells #[.int .u8 0] c) 5)) := by
  obtain ⟨i0, hi, hz0, hz1, hz2⟩ := info_parts infoByte
  have h := run_make (P := Tryd.prog) u 22 5 i0 (.int .u8 0) Tryd.underlying22 hi hz0 .i64 .i64 (c : Int) (c : Int) (by omega) (by omega) (by rw [hz2]; omega) (by omega)
  simpa [hz1, Value.cells] using h

theorem Row.madeN (B c : Nat) (u : World) (hB : B ≤ u.heap.size) (hc : c ≤ maxLen) : Row B (u.alloc (.cells (madeCells #[.int .u8 0] c) 5)) (.slice (some ⟨u.heap.size, 0, none⟩) c c) (List.replicate c 0) := by
  have h := World.ownsRow_lit (base := B) (e := 5) (size := 1) u (madeCells #[.int .u8 0] c) c hB hc (by simp [size_madeCells])
  rw [toList_madeCells_one] at h
  unfold Row
  rw [List.length_replicate]
  have e : Lib.byteCells (List.replicate c 0) = List.replicate c (.int .u8 0) := by simp [Lib.byteCells]
  rw [e]
  exact h
/-- A store into a row whose length is written another way. -/
theorem Row.set2 {w : World} {B g k c : Nat} {l l' : List UInt8} (h : Row B w (.slice (some ⟨g, 0, none⟩) k c) l) (hk : l.length = k) (j : Nat) (x : UInt8) (n : Int) (hn : n = (x.toNat : Int)) (hl : l.set j x = l') :
    Row B (w.setCell ⟨g, j, none⟩ (.int .u8 n)) (.slice (some ⟨g, 0, none⟩) k c) l' := by
  subst hk; subst hl
  have := Row.set h j x n hn
  rw [List.length_set] at this
  exact this

theorem Row.at2 {w : World} {B g k c : Nat} {l : List UInt8} (h : Row B w (.slice (some ⟨g, 0, none⟩) k c) l) (j : Nat) (hj : j < l.length) :
    w.cell? ⟨g, j, none⟩ = some (.int .u8 (l[j].toNat : Int)) ∧ w.frozen? ⟨g, j, none⟩ = false := by
  obtain ⟨g', e, _, _, _, h1, h2⟩ := h.place (by omega)
  cases e
  exact ⟨h1 j hj, h2 j⟩

end Go.Proofs.YtmmmogccjopfeaaDoor.BytesW
