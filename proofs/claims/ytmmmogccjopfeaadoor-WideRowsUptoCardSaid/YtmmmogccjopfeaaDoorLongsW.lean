/-
  Words for slices of uint64 at this program: a slice value that reads as a list of words; a row of words that the call owns; append of one word. Conditions: in each statement.
-/
import Derived.Test.YtmmmogccjopfeaaDoorCellsW
import Derived.Laws.OwnMore
namespace Go.Proofs.YtmmmogccjopfeaaDoor.LongsW
open Go.RowKit BytesW CellsW

theorem infoLong : (Tryd.prog.info? 40).map (fun i => (i.zero, i.size, i.bytes)) = some (some (.int .u64 0), 1, 8) := by kernel_rfl

/-- Words as cells. -/
def lc (l : List Nat) : List Value := l.map fun (n : Nat) => .int .u64 (n : Int)
theorem lc_length (l : List Nat) : (lc l).length = l.length := by simp [lc]
theorem lc_append (a b : List Nat) : lc (a ++ b) = lc a ++ lc b := by simp [lc]
theorem lc_get (l : List Nat) (k : Nat) (h : k < l.length) (h' : k < (lc l).length) : (lc l)[k] = .int .u64 (l[k] : Int) := by simp [lc]

/-- The slice value '.slice A l.length c' reads as the words l, below block B. -/
def Ls (w : World) (B : Nat) (A : Option Addr) (l : List Nat) : Prop :=
  0 < l.length → ∃ ad, A = some ad ∧ ad.block < B ∧ ∀ (k : Nat) (h : k < l.length), w.cell? (ad.add k) = some (.int .u64 (l[k] : Int))

section
variable {w w' : World} {B B' : Nat} {A : Option Addr} {l : List Nat} {v : Value}
theorem Ls.nil (w : World) (B : Nat) (A : Option Addr) : Ls w B A [] := fun h => absurd h (by simp)
theorem Ls.at_ (h : Ls w B A l) {k : Nat} (hk : k < l.length) : ∃ ad, A = some ad ∧ ad.block < B ∧ w.cell? (ad.add k) = some (.int .u64 (l[k] : Int)) := by
  obtain ⟨ad, e, hb, hc⟩ := h (by omega)
  exact ⟨ad, e, hb, hc k hk⟩
theorem Ls.more (h : Ls w B A l) (hB : B ≤ B') : Ls w B' A l := by
  intro h0
  obtain ⟨ad, e, hlt, hc⟩ := h h0
  exact ⟨ad, e, by omega, hc⟩
theorem Ls.below (h : Ls w B A l) (hb : Below B w w') : Ls w' B A l := by
  intro h0
  obtain ⟨ad, e, hlt, hc⟩ := h h0
  exact ⟨ad, e, hlt, fun k hk => (hb.cell (by rw [add_block]; exact hlt)).trans (hc k hk)⟩

/-- A row of words that the call owns (its blocks: from B on), holding l. -/
def LRow (B : Nat) (w : World) (v : Value) (l : List Nat) : Prop := VRow 40 B w v (lc l)
theorem LRow.nil (B : Nat) (w : World) : LRow B w (.slice none 0 0) [] := VRow.nil _ B w
theorem LRow.alloc (h : LRow B w v l) (o : Obj) : LRow B (w.alloc o) v l := VRow.alloc h o
theorem LRow.drew (h : LRow B w v l) : LRow B w.drew v l := h
theorem LRow.below (h : LRow B w v l) (hb : Below w.heap.size w w') : LRow B w' v l := VRow.below h hb
theorem LRow.form (h : LRow B w v l) : ∃ A c, v = .slice A l.length c ∧ Ls w w.heap.size A l ∧ l.length ≤ c := by
  obtain ⟨A, c, rfl, hv, hc⟩ := VRow.form h
  rw [lc_length] at hc
  refine ⟨A, c, by rw [lc_length], ?_, hc⟩
  intro h0
  obtain ⟨ad, e, hlt, hcell⟩ := hv (by rw [lc_length]; exact h0)
  refine ⟨ad, e, hlt, fun k hk => ?_⟩
  have := hcell k (by rw [lc_length]; exact hk)
  rw [this, lc_get l k hk]

/-- 'append(v, n)' of one word, as the operation's own run. -/
theorem lapp1_wp {w : World} {o : Oper} {a : Act} {K : Act → World → Prop} {Q : Exit → Act → World → Prop} (s x : Operand)
    (ho : o.op = .call { callee := .builtin .append, args := #[s, x], argTypes := #[39, 39] })
    (B : Nat) (v : Value) (l : List Nat) (hs : a.eval s = v) (hown : LRow B w v l)
    (ad : Addr) (cp : Nat) (n : Nat) (hx : a.eval x = .slice (some ad) 1 cp) (hc : w.cell? ad = some (.int .u64 (n : Int)))
    (hl : l.length + 1 ≤ 17592186044416) (hB : B ≤ w.heap.size)
    (h : ∀ v' w', LRow B w' v' (l ++ [n]) → Below B w w' → K (a.put o.dst v') w') : o.wp Tryd.prog a w K Q := by
  obtain ⟨i0, hi, hz0, hz1, hz2⟩ := info_parts infoLong
  obtain ⟨v', w', hr, h1, hg, _⟩ := run_append_own (P := Tryd.prog) w B 39 o.type 40 i0 (.int .u64 0) 1 8 Tryd.underlying39 hi hz0 hz1 hz2 rfl (by decide) v (lc l).length (lc l) hown ad 1 cp [.int .u64 (n : Int)] rfl
    (fun j u hj => by
      match j, hj with
      | 0, hj => simp at hj; subst hj; rw [add_zero]; exact hc)
    (fun u hu => by simp at hu; subst hu; rfl) (by rw [lc_length]; unfold maxLen; omega) (by rw [lc_length]; omega) hB
  unfold Oper.wp execOp
  simp only [ho, resolve, invoke, builtin, Sem.run_bind, Sem.run_pure, Result.andThen_ok, List.map_toArray, List.map_cons, List.map_nil, hs, hx, hr]
  refine h v' w' ?_ ((Below.refl B w).grown hg hB fun k hk => (World.ownsRow.lt hown k hk).1)
  unfold LRow VRow
  rw [lc_append, List.length_append]
  exact h1

/-- .. in a walk. -/
theorem lapp1 {w : World} {ops : Array Oper} {rest : List Oper} {o : Oper} {a : Act} {Q : Exit → Act → World → Prop} (hgd : o.guard = none) (s x : Operand)
    (ho : o.op = .call { callee := .builtin .append, args := #[s, x], argTypes := #[39, 39] })
    (B : Nat) (v : Value) (l : List Nat) (hs : a.eval s = v) (hown : LRow B w v l)
    (ad : Addr) (cp : Nat) (n : Nat) (hx : a.eval x = .slice (some ad) 1 cp) (hc : w.cell? ad = some (.int .u64 (n : Int)))
    (hl : l.length + 1 ≤ 17592186044416) (hB : B ≤ w.heap.size)
    (h : ∀ v' w', LRow B w' v' (l ++ [n]) → Below B w w' → wpList Tryd.prog ops Q rest (a.put o.dst v') w') : wpList Tryd.prog ops Q (o :: rest) a w :=
  wpList_plain hgd fun _ hK => lapp1_wp s x ho B v l hs hown ad cp n hx hc hl hB fun v' w' h1 h2 => hK _ _ (h v' w' h1 h2)

theorem newLong (w : World) (n : Nat) : (w.alloc (.cells #[.int .u64 (n : Int)] 40)).cell? ⟨w.heap.size, 0, none⟩ = some (.int .u64 (n : Int)) := new_cell w _ _
/-- A literal of words. -/
theorem LRow.lit (B : Nat) (w : World) (l : List Nat) (hB : B ≤ w.heap.size) (hl : l.length ≤ 4096) : LRow B (w.alloc (.cells (lc l).toArray 40)) (.slice (some ⟨w.heap.size, 0, none⟩) l.length l.length) l := by
  have h := World.ownsRow_lit (base := B) (e := 40) (size := 1) w (lc l).toArray l.length hB (by unfold maxLen; omega) (by simp [lc_length])
  unfold LRow VRow
  rw [lc_length]
  simpa using h
theorem LRow.empty (B : Nat) (w : World) (hB : B ≤ w.heap.size) : LRow B (w.alloc (.cells #[] 40)) (.slice (some ⟨w.heap.size, 0, none⟩) 0 0) [] :=
  World.ownsRow_made w #[] 0 hB (by decide) rfl
theorem LRow.place {B : Nat} {A : Option Addr} {n c : Nat} (h : LRow B w (.slice A n c) l) (h0 : 0 < l.length) :
    ∃ g, A = some ⟨g, 0, none⟩ ∧ n = l.length ∧ l.length ≤ c ∧ B ≤ g ∧ g < w.heap.size ∧ (∀ (k : Nat) (hk : k < l.length), w.cell? ⟨g, k, none⟩ = some (.int .u64 (l[k] : Int))) ∧ (∀ k, w.frozen? ⟨g, k, none⟩ = false) := by
  have h' := h
  unfold LRow VRow at h
  rcases h.2 with ⟨_, h1⟩ | ⟨g, cap, cur, hv, hb, hg, hc, _⟩
  · rw [lc_length] at h1; omega
  · cases hv
    rw [lc_length] at hc h
    refine ⟨g, rfl, lc_length l, hc, hb, (Array.getElem?_eq_some_iff.1 hg).1, fun k hk => ?_, fun k => World.ownsRow.frozenAt h k⟩
    rw [World.ownsRow.cellAt h k (by omega)]
    simp [lc, List.getElem?_eq_getElem hk]
theorem LRow.set {B g n c : Nat} (h : LRow B w (.slice (some ⟨g, 0, none⟩) n c) l) (hn : l.length = n) (k : Nat) (x : Nat) : LRow B (w.setCell ⟨g, k, none⟩ (.int .u64 (x : Int))) (.slice (some ⟨g, 0, none⟩) n c) (l.set k x) := by
  subst hn
  unfold LRow VRow at h ⊢
  rw [lc_length] at h ⊢
  have := (World.ownsRow.stored h k (.int .u64 (x : Int))).1
  rw [List.length_set]
  have e : lc (l.set k x) = (lc l).set k (.int .u64 (x : Int)) := by simp [lc, List.map_set]
  rw [e]
  exact this
theorem LRow.mono {B B' : Nat} (h : LRow B w v l) (hB : B' ≤ B) : LRow B' w v l := by
  refine ⟨h.1, ?_⟩
  rcases h.2 with h1 | ⟨g, cap, cur, hv, hb, rest⟩
  · exact .inl h1
  · exact .inr ⟨g, cap, cur, hv, Nat.le_trans hB hb, rest⟩
theorem LRow.owned {B g n c : Nat} (h : LRow B w (.slice (some ⟨g, 0, none⟩) n c) l) : B ≤ g := (World.ownsRow.lt h g rfl).1

/-- 'append(v, s...)' of words, none let in, to a row of the call's own. -/
theorem lappN {w : World} {ops : Array Oper} {rest : List Oper} {o : Oper} {a : Act} {Q : Exit → Act → World → Prop} (hgd : o.guard = none) (s x : Operand)
    (ho : o.op = .call { callee := .builtin .append, args := #[s, x], argTypes := #[39, 39] })
    (B N : Nat) (v : Value) (l : List Nat) (hs : a.eval s = v) (hown : LRow B w v l)
    (ad : Addr) (m : List Nat) (n cp : Nat) (hx : a.eval x = .slice (some ad) n cp) (hn : m.length = n) (hm : Ls w N (some ad) m)
    (hl : l.length + m.length ≤ 17592186044416) (hB : B ≤ w.heap.size)
    (h : ∀ v' w', LRow B w' v' (l ++ m) → Below B w w' → wpList Tryd.prog ops Q rest (a.put o.dst v') w') : wpList Tryd.prog ops Q (o :: rest) a w := by
  subst hn
  obtain ⟨i0, hi, hz0, hz1, hz2⟩ := info_parts infoLong
  unfold LRow VRow at hown
  rw [lc_length] at hown
  refine wpList_append_own w hgd s x 39 ho B 40 i0 (.int .u64 0) 1 8 Tryd.underlying39 hi hz0 hz1 hz2 rfl (by decide) v l.length _ hs hown ad m.length cp (lc m) hx (by rw [lc_length, Nat.mul_one]) ?_ ?_ (by unfold maxLen; omega) (by omega) hB ?_
  · intro j u hj
    have hjl : j < m.length := by
      rcases Nat.lt_or_ge j m.length with h | h
      · exact h
      · simp [lc, h] at hj
    obtain ⟨ad', e, _, hc⟩ := hm.at_ hjl
    cases e
    rw [hc]
    simpa [lc, List.getElem?_eq_getElem hjl] using hj
  · intro u hu
    simp only [lc, List.mem_map] at hu
    obtain ⟨b, _, rfl⟩ := hu
    rfl
  · intro v' w' h1 hg _
    refine h v' w' ?_ ((Below.refl B w).grown hg hB fun k hk => (World.ownsRow.lt hown k hk).1)
    unfold LRow VRow
    rw [lc_length, List.length_append, lc_append]
    exact h1
end
end Go.Proofs.YtmmmogccjopfeaaDoor.LongsW
