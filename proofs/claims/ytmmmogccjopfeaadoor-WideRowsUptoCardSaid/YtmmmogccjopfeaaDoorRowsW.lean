/-
  Words for slices of byte slices at this program: a value that reads as a list of rows; a slice of rows that the call owns; append to it. Conditions: in each statement.
-/
import Derived.Test.YtmmmogccjopfeaaDoorCellsW
import Derived.Test.YtmmmogccjopfeaaDoorBytesX
namespace Go.Proofs.YtmmmogccjopfeaaDoor.RowsW
open Go.RowKit BytesW CellsW

theorem infoRow : (Tryd.prog.info? 22).map (fun i => (i.zero, i.size, i.bytes)) = some (some (.slice none 0 0), 1, 24) := by kernel_rfl

/-- The slice value '.slice A ls.length c' reads as the rows ls, below block B. -/
def Ms (w : World) (B : Nat) (A : Option Addr) (ls : List (List UInt8)) : Prop :=
  0 < ls.length → ∃ ad, A = some ad ∧ ad.block < B ∧ ∀ (k : Nat) (h : k < ls.length), ∃ a c, w.cell? (ad.add k) = some (.slice a ls[k].length c) ∧ Bs w B a ls[k] ∧ ls[k].length ≤ c

section
variable {w w' : World} {B B' : Nat} {A : Option Addr} {ls : List (List UInt8)}

theorem Ms.nil (w : World) (B : Nat) (A : Option Addr) : Ms w B A [] := fun h => absurd h (by simp)

theorem Ms.at_ (h : Ms w B A ls) {k : Nat} (hk : k < ls.length) : ∃ ad a c, A = some ad ∧ ad.block < B ∧ w.cell? (ad.add k) = some (.slice a ls[k].length c) ∧ Bs w B a ls[k] ∧ ls[k].length ≤ c := by
  obtain ⟨ad, e, hb, hc⟩ := h (by omega)
  obtain ⟨a, c, h1, h2, h3⟩ := hc k hk
  exact ⟨ad, a, c, e, hb, h1, h2, h3⟩

theorem Ms.more (h : Ms w B A ls) (hB : B ≤ B') : Ms w B' A ls := by
  intro h0
  obtain ⟨ad, e, hlt, hc⟩ := h h0
  refine ⟨ad, e, by omega, fun k hk => ?_⟩
  obtain ⟨a, c, h1, h2, h3⟩ := hc k hk
  exact ⟨a, c, h1, h2.more hB, h3⟩

theorem Ms.below (h : Ms w B A ls) (hb : Below B w w') : Ms w' B A ls := by
  intro h0
  obtain ⟨ad, e, hlt, hc⟩ := h h0
  refine ⟨ad, e, hlt, fun k hk => ?_⟩
  obtain ⟨a, c, h1, h2, h3⟩ := hc k hk
  exact ⟨a, c, (hb.cell (by rw [add_block]; exact hlt)).trans h1, h2.below hb, h3⟩
end

/-- The value u reads as the bytes l, apart from the row that v owns. -/
def El (w : World) (v u : Value) (l : List UInt8) : Prop := ∃ a c, u = .slice a l.length c ∧ l.length ≤ c ∧ Bs w w.heap.size a l ∧ (0 < l.length → ∀ ad, a = some ad → v.ownBlock ≠ some ad.block)
def Es (w : World) (v : Value) (us : List Value) (ls : List (List UInt8)) : Prop := us.length = ls.length ∧ ∀ (k : Nat) u l, us[k]? = some u → ls[k]? = some l → El w v u l

theorem Es.append {w : World} {v : Value} {us us' : List Value} {ls ls' : List (List UInt8)} (h : Es w v us ls) (h' : Es w v us' ls') : Es w v (us ++ us') (ls ++ ls') := by
  refine ⟨by rw [List.length_append, List.length_append, h.1, h'.1], fun k u l hu hl => ?_⟩
  by_cases hk : k < us.length
  · rw [List.getElem?_append_left hk] at hu
    rw [List.getElem?_append_left (by rw [← h.1]; exact hk)] at hl
    exact h.2 k u l hu hl
  · rw [List.getElem?_append_right (by omega)] at hu
    rw [List.getElem?_append_right (by rw [← h.1]; omega), ← h.1] at hl
    exact h'.2 _ u l hu hl

theorem Es.one {w : World} {v u : Value} {l : List UInt8} (h : El w v u l) : Es w v [u] [l] := by
  refine ⟨rfl, fun k u' l' hu hl => ?_⟩
  match k, hu, hl with
  | 0, hu, hl => simp at hu hl; subst hu; subst hl; exact h

theorem El.grown {w w' : World} {v v' u : Value} {l : List UInt8} (h : El w v u l) (hg : w.grownBy w' v.ownBlock) (hv : ∀ k, v'.ownBlock = some k → v.ownBlock = some k ∨ w.heap.size ≤ k) : El w' v' u l := by
  obtain ⟨a, c, rfl, hc, hb, hp⟩ := h
  refine ⟨a, c, rfl, hc, ?_, ?_⟩
  · intro h0
    obtain ⟨ad, rfl, hlt, hcell⟩ := hb h0
    refine ⟨ad, rfl, Nat.lt_of_lt_of_le hlt hg.size, fun k hk => hg.cell (hcell k hk) ?_⟩
    rw [add_block]
    exact fun e => hp h0 ad rfl e.symm
  · intro h0 ad hd
    obtain ⟨ad', hd', hlt, _⟩ := hb h0
    rw [hd] at hd'
    cases hd'
    intro e
    rcases hv _ e with h1 | h1
    · exact hp h0 ad hd h1
    · omega

theorem El.below {w w' : World} {v u : Value} {l : List UInt8} (h : El w v u l) (hb : Below w.heap.size w w') : El w' v u l := by
  obtain ⟨a, c, rfl, hc, hs, hp⟩ := h
  exact ⟨a, c, rfl, hc, (hs.below hb).more hb.size, hp⟩
theorem Es.below {w w' : World} {v : Value} {us : List Value} {ls : List (List UInt8)} (h : Es w v us ls) (hb : Below w.heap.size w w') : Es w' v us ls :=
  ⟨h.1, fun k u l hu hl => (h.2 k u l hu hl).below hb⟩

/-- A slice of rows that the call owns (its blocks: from B on), and whose rows read as ls. -/
def MRow (B : Nat) (w : World) (v : Value) (ls : List (List UInt8)) : Prop := ∃ us, VRow 22 B w v us ∧ Es w v us ls

theorem MRow.nil (B : Nat) (w : World) : MRow B w (.slice none 0 0) [] := ⟨[], VRow.nil _ B w, rfl, fun k u l hu _ => by simp at hu⟩
theorem MRow.below {B : Nat} {w w' : World} {v : Value} {ls : List (List UInt8)} (h : MRow B w v ls) (hb : Below w.heap.size w w') : MRow B w' v ls := by
  obtain ⟨us, h1, h2⟩ := h
  exact ⟨us, h1.below hb, h2.below hb⟩

theorem MRow.form {B : Nat} {w : World} {v : Value} {ls : List (List UInt8)} (h : MRow B w v ls) : ∃ A c, v = .slice A ls.length c ∧ Ms w w.heap.size A ls ∧ ls.length ≤ c := by
  obtain ⟨us, h1, h2⟩ := h
  obtain ⟨A, c, rfl, hv, hc⟩ := h1.form
  have hl : us.length = ls.length := h2.1
  refine ⟨A, c, by rw [hl], ?_, by omega⟩
  intro h0
  obtain ⟨ad, e, hlt, hcell⟩ := hv (by omega)
  refine ⟨ad, e, hlt, fun k hk => ?_⟩
  have hk' : k < us.length := by omega
  obtain ⟨a, c', e1, e2, e3, _⟩ := h2.2 k us[k] ls[k] (List.getElem?_eq_getElem hk') (List.getElem?_eq_getElem hk)
  exact ⟨a, c', by rw [hcell k hk', e1], e3, e2⟩

theorem run_mapp (w : World) (B : Nat) (ts ty te : TypeId) (z : Value) (bytes : Nat) (hu : Tryd.prog.underlying ts = some (.slice te)) (hin : (Tryd.prog.info? te).map (fun i => (i.zero, i.size, i.bytes)) = some (some z, 1, bytes)) (hzs : z.cells.size = 1)
    (v : Value) (xs : List Value) (hown : VRow te B w v xs) (ad : Addr) (m cp : Nat) (us : List Value) (hm : us.length = m) (hc : ∀ (j : Nat) u, us[j]? = some u → w.cell? (ad.add j) = some u) (h1 : ∀ u ∈ us, u.oneCell' = true)
    (hl : (xs.length + m) * bytes ≤ 140737488355328) (hl2 : xs.length + m ≤ 140737488355328) (hB : B ≤ w.heap.size) :
    ∃ v' w', (Builtin.append_ #[ts, ts] ty #[v, .slice (some ad) m cp]).run Tryd.prog w = .ok v' w' ∧ VRow te B w' v' (xs ++ us) ∧ w.grownBy w' v.ownBlock ∧ (∀ k, v'.ownBlock = some k → v.ownBlock = some k ∨ w.heap.size ≤ k) := by
  obtain ⟨i0, hi, hz0, hz1, hz2⟩ := info_parts hin
  have hown' := hown
  unfold VRow at hown
  have fin : ∀ (w' : World) (v' : Value) (B' : Nat), B ≤ B' → w'.ownsRow B' te 1 v' (xs.length + m) (xs ++ us) → VRow te B w' v' (xs ++ us) := by
    intro w' v' B' hB' h
    unfold VRow
    rw [List.length_append, hm]
    refine ⟨h.1, ?_⟩
    rcases h.2 with h5 | ⟨g', cap', cur', he, hb', hrest⟩
    · exact .inl h5
    · exact .inr ⟨g', cap', cur', he, Nat.le_trans hB' hb', hrest⟩
  rcases hown.2 with ⟨rfl, h0⟩ | ⟨g, cap, cur, rfl, hbg, hg, hnc, hcm, hcs, htake⟩
  · have hx : xs = [] := List.eq_nil_of_length_eq_zero h0
    subst hx
    obtain ⟨v', w', hr, h2, h3, _⟩ := run_append_own (P := Tryd.prog) w w.heap.size ts ty te i0 z 1 bytes hu hi hz0 hz1 hz2 hzs (by decide) (.slice none 0 0) 0 [] (World.ownsRow_nil _ _ _ _) ad m cp us (by rw [hm, Nat.mul_one]) hc h1 (by unfold maxLen; simp at hl2 ⊢; omega) (by simpa using hl) (Nat.le_refl _)
    refine ⟨v', w', hr, fin _ _ _ hB (by simpa using h2), h3, fun k hk => .inr (World.ownsRow.lt h2 k hk).1⟩
  · by_cases hroom : xs.length + m ≤ cap
    · obtain ⟨w', hr, h2, h3⟩ := run_append_own_spare (P := Tryd.prog) w B ts ty te i0 1 hu hi hz1 g xs.length cap _ hown ad m cp us (by rw [hm, Nat.mul_one]) hc h1 hroom
      exact ⟨_, w', hr, fin _ _ _ (Nat.le_refl _) h2, h3, fun k hk => .inl (by simpa [Value.ownBlock] using hk)⟩
    · have hcells := World.ownsRow.cells hown (g := g) rfl
      obtain ⟨v', w', hr, h2, h3⟩ := run_append_arg_grows (P := Tryd.prog) w ts ty te i0 z 1 bytes hu hi hz0 hz1 hz2 hzs (by decide) ⟨g, 0, none⟩ xs.length cap _ hown.1 hcells ad m cp us (by rw [hm, Nat.mul_one]) hc (by omega) (by unfold maxLen; omega) hl
      exact ⟨v', w', hr, fin _ _ _ hB h2, ⟨h3.os, h3.tape, h3.output, h3.size, fun k hk _ => h3.block k hk (by simp)⟩, fun k hk => .inr (World.ownsRow.lt h2 k hk).1⟩

/-- 'append(v, us...)' of rows to a slice of rows that the call owns. -/
theorem mapp {w : World} {ops : Array Oper} {rest : List Oper} {o : Oper} {a : Act} {Q : Exit → Act → World → Prop} (hgd : o.guard = none) (s x : Operand)
    (ho : o.op = .call { callee := .builtin .append, args := #[s, x], argTypes := #[29, 29] })
    (B : Nat) (v : Value) (ls : List (List UInt8)) (hs : a.eval s = v) (hown : MRow B w v ls)
    (ad : Addr) (cp : Nat) (us : List Value) (ms : List (List UInt8)) (hx : a.eval x = .slice (some ad) ms.length cp) (hE : Es w v us ms) (hc : ∀ (j : Nat) u, us[j]? = some u → w.cell? (ad.add j) = some u)
    (hl : (ls.length + ms.length) * 24 ≤ 140737488355328) (hB : B ≤ w.heap.size)
    (h : ∀ v' w', MRow B w' v' (ls ++ ms) → Below B w w' → wpList Tryd.prog ops Q rest (a.put o.dst v') w') : wpList Tryd.prog ops Q (o :: rest) a w := by
  obtain ⟨vs, h1, h2⟩ := hown
  have hvl : vs.length = ls.length := h2.1
  have hul : us.length = ms.length := hE.1
  obtain ⟨v', w', hr, g1, g2, g3⟩ := run_mapp w B 29 o.type 22 (.slice none 0 0) 24 Tryd.underlying29 infoRow rfl v vs h1 ad ms.length cp us hul hc (fun u hu => by
      obtain ⟨k, hk, rfl⟩ := List.getElem_of_mem hu
      obtain ⟨a, c, e, _⟩ := hE.2 k us[k] (ms[k]'(by omega)) (List.getElem?_eq_getElem hk) (List.getElem?_eq_getElem (by omega))
      rw [e]; rfl) (by rw [hvl]; exact hl) (by omega) hB
  refine wpList_plain hgd fun K hK => ?_
  unfold Oper.wp execOp
  simp only [ho, resolve, invoke, builtin, Sem.run_bind, Sem.run_pure, Result.andThen_ok, List.map_toArray, List.map_cons, List.map_nil, hs, hx, hr]
  refine hK _ _ (h v' w' ⟨vs ++ us, g1, ?_⟩ ((Below.refl B w).grown g2 hB fun k hk => (World.ownsRow.lt h1 k hk).1))
  have := h2.append hE
  exact ⟨this.1, fun k u l hu hl => (this.2 k u l hu hl).grown g2 g3⟩

theorem run_mapp_nil (w : World) (B : Nat) (ts ty te : TypeId) (z : Value) (bytes : Nat) (hu : Tryd.prog.underlying ts = some (.slice te)) (hin : (Tryd.prog.info? te).map (fun i => (i.zero, i.size, i.bytes)) = some (some z, 1, bytes))
    (v : Value) (xs : List Value) (hown : VRow te B w v xs) (c : Nat) : (Builtin.append_ #[ts, ts] ty #[v, .slice none 0 c]).run Tryd.prog w = .ok v w := by
  obtain ⟨i0, hi, hz0, hz1, hz2⟩ := info_parts hin
  unfold VRow at hown
  generalize hn : xs.length = n at hown
  clear hn
  rcases hown.2 with ⟨rfl, rfl⟩ | ⟨g, cap, cur, rfl, _, _, hcap, _⟩
  · simp [Builtin.append_, run_underlying hu, sizeOf, typeInfo, hi, Builtin.lenOf, Builtin.firstCells]
  · simp [Builtin.append_, run_underlying hu, sizeOf, typeInfo, hi, Builtin.lenOf, Builtin.firstCells, hcap, storeCells]

/-- 'append(v, us...)' of a slice of rows, nil let in. -/
theorem mappN {w : World} {ops : Array Oper} {rest : List Oper} {o : Oper} {a : Act} {Q : Exit → Act → World → Prop} (hgd : o.guard = none) (s x : Operand)
    (ho : o.op = .call { callee := .builtin .append, args := #[s, x], argTypes := #[29, 29] })
    (B : Nat) (v : Value) (ls : List (List UInt8)) (hs : a.eval s = v) (hown : MRow B w v ls)
    (A : Option Addr) (cp : Nat) (us : List Value) (ms : List (List UInt8)) (hx : a.eval x = .slice A ms.length cp) (hE : Es w v us ms) (hc : 0 < us.length → ∃ ad, A = some ad ∧ ∀ (j : Nat) u, us[j]? = some u → w.cell? (ad.add j) = some u)
    (hl : (ls.length + ms.length) * 24 ≤ 140737488355328) (hB : B ≤ w.heap.size)
    (h : ∀ v' w', MRow B w' v' (ls ++ ms) → Below B w w' → wpList Tryd.prog ops Q rest (a.put o.dst v') w') : wpList Tryd.prog ops Q (o :: rest) a w := by
  cases A with
  | none =>
    have hm0 : ms = [] := by
      cases ms with
      | nil => rfl
      | cons y r => obtain ⟨ad, e, _⟩ := hc (by rw [hE.1]; simp); cases e
    subst hm0
    obtain ⟨vs, h1, h2⟩ := hown
    refine wpList_plain hgd fun K hK => ?_
    unfold Oper.wp execOp
    simp only [ho, resolve, invoke, builtin, Sem.run_bind, Sem.run_pure, Result.andThen_ok, List.map_toArray, List.map_cons, List.map_nil, hs, hx, List.length_nil, run_mapp_nil w B 29 o.type 22 (.slice none 0 0) 24 Tryd.underlying29 infoRow v vs h1 cp]
    exact hK _ _ (h v w (by simpa using ⟨vs, h1, h2⟩) (Below.refl _ _))
  | some ad =>
    refine mapp hgd s x ho B v ls hs hown ad cp us ms hx hE (fun j u hj => ?_) hl hB h
    have h0 : 0 < us.length := by
      have := (List.getElem?_eq_some_iff.1 hj).1
      omega
    obtain ⟨ad', e, hcell⟩ := hc h0
    cases e
    exact hcell j u hj

theorem El.behind {w w' : World} {v u : Value} {l : List UInt8} {n c : Nat} (h : El w v u l) (hb : Below w.heap.size w w') : El w' (.slice (some ⟨w.heap.size, 0, none⟩) n c) u l := by
  obtain ⟨a, c', rfl, hc, hs, _⟩ := h
  refine ⟨a, c', rfl, hc, (hs.below hb).more hb.size, fun h0 ad hd e => ?_⟩
  obtain ⟨ad', hd', hlt, _⟩ := hs h0
  rw [hd] at hd'
  cases hd'
  simp [Value.ownBlock] at e
  omega
theorem Es.behind {w w' : World} {v : Value} {us : List Value} {ls : List (List UInt8)} {n c : Nat} (h : Es w v us ls) (hb : Below w.heap.size w w') : Es w' (.slice (some ⟨w.heap.size, 0, none⟩) n c) us ls :=
  ⟨h.1, fun k u l hu hl => (h.2 k u l hu hl).behind hb⟩

/-- A slice of rows, opened for an append of it behind a row that is laid now. -/
theorem MRow.open_ {B : Nat} {w : World} {v : Value} {ls : List (List UInt8)} (h : MRow B w v ls) : ∃ A c us, v = .slice A ls.length c ∧ Es w v us ls ∧ (0 < us.length → ∃ ad, A = some ad ∧ ad.block < w.heap.size ∧ ∀ (j : Nat) u, us[j]? = some u → w.cell? (ad.add j) = some u) := by
  obtain ⟨us, h1, h2⟩ := h
  obtain ⟨A, c, e, hv, hc⟩ := h1.form
  refine ⟨A, c, us, by rw [e, h2.1], h2, fun h0 => ?_⟩
  obtain ⟨ad, e1, hb, hcell⟩ := hv h0
  refine ⟨ad, e1, hb, fun j u hj => ?_⟩
  obtain ⟨hj', e2⟩ := List.getElem?_eq_some_iff.1 hj
  rw [hcell j hj', e2]

/-- A slice of rows that has just been laid. -/
theorem Ms.laid (w : World) (us : List Value) (ls : List (List UInt8)) (cs : Array Value) (hcs : cs = us.toArray) (fz : Nat × Nat) (hlen : us.length = ls.length)
    (hE : ∀ (k : Nat) u l, us[k]? = some u → ls[k]? = some l → ∃ a c, u = .slice a l.length c ∧ l.length ≤ c ∧ Bs w w.heap.size a l) (B : Nat) (hB : w.heap.size < B) :
    Ms (w.alloc (.cells cs 22 fz)) B (some ⟨w.heap.size, 0, none⟩) ls := by
  subst hcs
  intro _
  refine ⟨_, rfl, hB, fun k hk => ?_⟩
  have hk' : k < us.length := by omega
  obtain ⟨a, c, e, h1, h2⟩ := hE k us[k] ls[k] (List.getElem?_eq_getElem hk') (List.getElem?_eq_getElem hk)
  have ea : (⟨w.heap.size, 0, none⟩ : Addr).add k = ⟨w.heap.size, k, none⟩ := by unfold Addr.add; split <;> simp_all
  refine ⟨a, c, ?_, (h2.below ((Below.refl _ w).alloc (Nat.le_refl _) _)).more (by omega), h1⟩
  rw [ea, ← e]
  unfold World.cell?
  simp only [heap_alloc_new]
  simp [List.getElem?_eq_getElem hk']

theorem Ms.laid2 (w : World) (a1 a2 : Option Addr) (l1 l2 : List UInt8) (n1 n2 c1 c2 : Nat) (hn1 : n1 = l1.length) (hn2 : n2 = l2.length) (h1 : Bs w w.heap.size a1 l1) (h2 : Bs w w.heap.size a2 l2) (hc1 : n1 ≤ c1) (hc2 : n2 ≤ c2) (fz : Nat × Nat) (B : Nat) (hB : w.heap.size < B) :
    Ms (w.alloc (.cells #[.slice a1 n1 c1, .slice a2 n2 c2] 22 fz)) B (some ⟨w.heap.size, 0, none⟩) [l1, l2] := by
  subst hn1
  subst hn2
  refine Ms.laid w [.slice a1 l1.length c1, .slice a2 l2.length c2] [l1, l2] _ rfl fz rfl (fun k u l hu hl => ?_) B hB
  match k, hu, hl with
  | 0, hu, hl => simp at hu hl; subst hu; subst hl; exact ⟨a1, c1, rfl, hc1, h1⟩
  | 1, hu, hl => simp at hu hl; subst hu; subst hl; exact ⟨a2, c2, rfl, hc2, h2⟩

theorem ownsRow_base {w : World} {B B' : Nat} {te : TypeId} {k n : Nat} {v : Value} {xs : List Value} (h : w.ownsRow B' te k v n xs) (hB : B ≤ B') : w.ownsRow B te k v n xs := by
  refine ⟨h.1, ?_⟩
  rcases h.2 with h5 | ⟨g', cap', cur', he, hb', hrest⟩
  · exact .inl h5
  · exact .inr ⟨g', cap', cur', he, Nat.le_trans hB hb', hrest⟩
theorem _root_.Go.Proofs.YtmmmogccjopfeaaDoor.BytesW.Row.base {w : World} {B B' : Nat} {v : Value} {l : List UInt8} (h : Row B' w v l) (hB : B ≤ B') : Row B w v l := ownsRow_base h hB
theorem MRow.base {w : World} {B B' : Nat} {v : Value} {ls : List (List UInt8)} (h : MRow B' w v ls) (hB : B ≤ B') : MRow B w v ls := by
  obtain ⟨us, h1, h2⟩ := h
  exact ⟨us, ownsRow_base h1 hB, h2⟩

/-- Bytes that were laid behind a slice of rows stand apart from it. -/
theorem El.fresh {B : Nat} {w w' : World} {v : Value} {ls : List (List UInt8)} {X : Option Addr} {l : List UInt8} {c : Nat} (h : MRow B w v ls) (hx : Row w.heap.size w' (.slice X l.length c) l) (hc : l.length ≤ c) : El w' v (.slice X l.length c) l := by
  obtain ⟨A, c', e, hb, _⟩ := hx.form2
  cases e
  refine ⟨X, c, rfl, hc, hb, fun h0 ad hd e => ?_⟩
  obtain ⟨g, hg, _, hge, _⟩ := hx.place h0
  rw [hd] at hg
  cases hg
  obtain ⟨us, h1, _⟩ := h
  have := (World.ownsRow.lt h1 _ e).2
  simp only at this
  omega

theorem new_row (w : World) (A : Option Addr) (n c : Nat) : ∀ (j : Nat) u, ([.slice A n c] : List Value)[j]? = some u → (w.alloc (.cells #[.slice A n c] 22)).cell? ((⟨w.heap.size, 0, none⟩ : Addr).add j) = some u := by
  intro j u hj
  match j, hj with
  | 0, hj =>
    simp at hj
    subst hj
    rw [add_zero]
    unfold World.cell?
    simp only [heap_alloc_new]
    rfl

/-- A row of one byte that has just been laid is the call's own. -/
theorem Row.lit (B : Nat) (w : World) (n : Int) (c : UInt8) (hn : n = (c.toNat : Int)) (hB : B ≤ w.heap.size) : Row B (w.alloc (.cells #[.int .u8 n] 5)) (.slice (some ⟨w.heap.size, 0, none⟩) 1 1) [c] := by
  subst hn
  exact ⟨rfl, .inr ⟨w.heap.size, 1, _, rfl, hB, heap_alloc_new w _, Nat.le_refl _, by unfold maxLen; omega, rfl, rfl⟩⟩

/-- A slice of one row that has just been laid is the call's own. -/
theorem MRow.lit (B : Nat) (w : World) (A : Option Addr) (l : List UInt8) (c : Nat) (hl : l.length ≤ c) (hA : Bs w w.heap.size A l) (hB : B ≤ w.heap.size) :
    MRow B (w.alloc (.cells #[.slice A l.length c] 22)) (.slice (some ⟨w.heap.size, 0, none⟩) 1 1) [l] := by
  refine ⟨[.slice A l.length c], ⟨rfl, .inr ⟨w.heap.size, 1, _, rfl, hB, heap_alloc_new w _, Nat.le_refl _, by unfold maxLen; omega, rfl, rfl⟩⟩, Es.one ⟨A, c, rfl, hl, ?_, ?_⟩⟩
  · exact (hA.below ((Below.refl _ w).alloc (Nat.le_refl _) _)).more (by simp)
  · intro h0 ad hd e
    obtain ⟨ad', hd', hlt, _⟩ := hA h0
    rw [hd] at hd'
    cases hd'
    simp [Value.ownBlock] at e
    omega
end Go.Proofs.YtmmmogccjopfeaaDoor.RowsW
