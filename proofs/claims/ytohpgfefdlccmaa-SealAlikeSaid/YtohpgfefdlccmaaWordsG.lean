/-
  More words for rows of uint32: place, set, append with what it leaves alone. Conditions: in each statement.
-/
import Derived.Test.YtohpgfefdlccmaaKb
namespace Go.Proofs.Ytohpgfefdlccmaa.WordsW
open Go.RowKit BytesW CellsW

section
variable {w w' : World} {B B' : Nat} {A : Option Addr} {l : List Nat} {v : Value}
theorem URow.empty (B : Nat) (w : World) (hB : B ≤ w.heap.size) : URow B (w.alloc (.cells #[] 48)) (.slice (some ⟨w.heap.size, 0, none⟩) 0 0) [] :=
  World.ownsRow_made w #[] 0 hB (by decide) rfl
theorem URow.place {B : Nat} {A : Option Addr} {n c : Nat} (h : URow B w (.slice A n c) l) (h0 : 0 < l.length) :
    ∃ g, A = some ⟨g, 0, none⟩ ∧ n = l.length ∧ l.length ≤ c ∧ B ≤ g ∧ g < w.heap.size ∧ (∀ (k : Nat) (hk : k < l.length), w.cell? ⟨g, k, none⟩ = some (.int .u32 (l[k] : Int))) ∧ (∀ k, w.frozen? ⟨g, k, none⟩ = false) := by
  have h' := h
  unfold URow VRow at h
  rcases h.2 with ⟨_, h1⟩ | ⟨g, cap, cur, hv, hb, hg, hc, _⟩
  · rw [wc_length] at h1; omega
  · cases hv
    rw [wc_length] at hc h
    refine ⟨g, rfl, wc_length l, hc, hb, (Array.getElem?_eq_some_iff.1 hg).1, fun k hk => ?_, fun k => World.ownsRow.frozenAt h k⟩
    rw [World.ownsRow.cellAt h k (by omega)]
    simp [wc, List.getElem?_eq_getElem hk]
theorem URow.set {B g n c : Nat} (h : URow B w (.slice (some ⟨g, 0, none⟩) n c) l) (hn : l.length = n) (k : Nat) (x : Nat) : URow B (w.setCell ⟨g, k, none⟩ (.int .u32 (x : Int))) (.slice (some ⟨g, 0, none⟩) n c) (l.set k x) := by
  subst hn
  unfold URow VRow at h ⊢
  rw [wc_length] at h ⊢
  have := (World.ownsRow.stored h k (.int .u32 (x : Int))).1
  rw [List.length_set]
  have e : wc (l.set k x) = (wc l).set k (.int .u32 (x : Int)) := by simp [wc, List.map_set]
  rw [e]
  exact this
theorem URow.mono {B B' : Nat} (h : URow B w v l) (hB : B' ≤ B) : URow B' w v l := by
  refine ⟨h.1, ?_⟩
  rcases h.2 with h1 | ⟨g, cap, cur, hv, hb, rest⟩
  · exact .inl h1
  · exact .inr ⟨g, cap, cur, hv, Nat.le_trans hB hb, rest⟩
theorem URow.owned {B g n c : Nat} (h : URow B w (.slice (some ⟨g, 0, none⟩) n c) l) : B ≤ g := (World.ownsRow.lt h g rfl).1


/-- 'append(v, n)' of one word: and what it leaves alone. -/
theorem uapp1g {w : World} {ops : Array Oper} {rest : List Oper} {o : Oper} {a : Act} {Q : Exit → Act → World → Prop} (hgd : o.guard = none) (s x : Operand)
    (ho : o.op = .call { callee := .builtin .append, args := #[s, x], argTypes := #[59, 59] })
    (B : Nat) (v : Value) (l : List Nat) (hs : a.eval s = v) (hown : URow B w v l)
    (ad : Addr) (cp : Nat) (n : Nat) (hx : a.eval x = .slice (some ad) 1 cp) (hc : w.cell? ad = some (.int .u32 (n : Int)))
    (hl : l.length + 1 ≤ 35184372088832) (hB : B ≤ w.heap.size)
    (h : ∀ v' w', URow B w' v' (l ++ [n]) → w.grownBy w' v.ownBlock → (∀ k, v'.ownBlock = some k → v.ownBlock = some k ∨ w.heap.size ≤ k) → wpList Try.prog ops Q rest (a.put o.dst v') w') : wpList Try.prog ops Q (o :: rest) a w := by
  refine wpList_plain hgd fun K hK => ?_
  obtain ⟨v', w', hr, h1, hg, hv⟩ := RowsW.run_mapp w B 59 o.type 48 (.int .u32 0) 4 Try.underlying59 infoWord rfl v (wc l) hown ad 1 cp [.int .u32 (n : Int)] rfl
    (fun j u hj => by
      match j, hj with
      | 0, hj => simp at hj; subst hj; rw [add_zero]; exact hc)
    (fun u hu => by simp at hu; subst hu; rfl) (by rw [wc_length]; omega) (by rw [wc_length]; omega) hB
  unfold Oper.wp execOp
  simp only [ho, resolve, invoke, builtin, Sem.run_bind, Sem.run_pure, Result.andThen_ok, List.map_toArray, List.map_cons, List.map_nil, hs, hx, hr]
  refine hK _ _ (h v' w' ?_ hg hv)
  unfold URow
  rw [wc_append]
  exact h1
/-- 'append(v, s...)' of words, none let in, to a row of the call's own. -/
theorem uappN {w : World} {ops : Array Oper} {rest : List Oper} {o : Oper} {a : Act} {Q : Exit → Act → World → Prop} (hgd : o.guard = none) (s x : Operand)
    (ho : o.op = .call { callee := .builtin .append, args := #[s, x], argTypes := #[59, 59] })
    (B N : Nat) (v : Value) (l : List Nat) (hs : a.eval s = v) (hown : URow B w v l)
    (ad : Addr) (m : List Nat) (n cp : Nat) (hx : a.eval x = .slice (some ad) n cp) (hn : m.length = n) (hm : Us w N (some ad) m)
    (hl : l.length + m.length ≤ 35184372088832) (hB : B ≤ w.heap.size)
    (h : ∀ v' w', URow B w' v' (l ++ m) → Below B w w' → wpList Try.prog ops Q rest (a.put o.dst v') w') : wpList Try.prog ops Q (o :: rest) a w := by
  subst hn
  obtain ⟨i0, hi, hz0, hz1, hz2⟩ := info_parts infoWord
  unfold URow VRow at hown
  rw [wc_length] at hown
  refine wpList_append_own w hgd s x 59 ho B 48 i0 (.int .u32 0) 1 4 Try.underlying59 hi hz0 hz1 hz2 rfl (by decide) v l.length _ hs hown ad m.length cp (wc m) hx (by rw [wc_length, Nat.mul_one]) ?_ ?_ (by unfold maxLen; omega) (by omega) hB ?_
  · intro j u hj
    have hjl : j < m.length := by
      rcases Nat.lt_or_ge j m.length with h | h
      · exact h
      · simp [wc, h] at hj
    obtain ⟨ad', e, _, hc⟩ := hm.at_ hjl
    cases e
    rw [hc]
    simpa [wc, List.getElem?_eq_getElem hjl] using hj
  · intro u hu
    simp only [wc, List.mem_map] at hu
    obtain ⟨b, _, rfl⟩ := hu
    rfl
  · intro v' w' h1 hg _
    refine h v' w' ?_ ((Below.refl B w).grown hg hB fun k hk => (World.ownsRow.lt hown k hk).1)
    unfold URow VRow
    rw [wc_length, List.length_append, wc_append]
    exact h1
/-- Words that read, whatever the row that grows. -/
theorem Us.other {w w' : World} {r : Nat} {A : Option Addr} {l : List Nat} (h : Us w w.heap.size A l) (hg : w.grownBy w' (some r)) (hne : 0 < l.length → ∀ ad, A = some ad → ad.block ≠ r) : Us w' w'.heap.size A l := by
  intro h0
  obtain ⟨ad, e, hlt, hcl⟩ := h h0
  exact ⟨ad, e, Nat.lt_of_lt_of_le hlt hg.size, fun k hk => (World.cell?_of_block (hg.block _ (by rw [add_block]; exact hlt) (by rw [add_block]; intro q; cases q; exact hne h0 ad e rfl))).trans (hcl k hk)⟩
end
end Go.Proofs.Ytohpgfefdlccmaa.WordsW
