/-
  'append' of cells of one size to a row of the call's own, at any type of one cell. Conditions: in each statement.
-/
import Derived.Test.YtfngomlknhappaaDoorKb
import Derived.Laws.OwnMore
namespace Go.Proofs.YtfngomlknhappaaDoor.CellsA
open Go.RowKit BytesW CellsW

theorem run_mapp (w : World) (B : Nat) (ts ty te : TypeId) (z : Value) (bytes : Nat) (hu : Tryd.prog.underlying ts = some (.slice te)) (hin : (Tryd.prog.info? te).map (fun i => (i.zero, i.size, i.bytes)) = some (some z, 1, bytes)) (hzs : z.cells.size = 1)
    (v : Value) (xs : List Value) (hown : VRow te B w v xs) (ad : Addr) (m cp : Nat) (us : List Value) (hm : us.length = m) (hc : ∀ (j : Nat) u, us[j]? = some u → w.cell? (ad.add j) = some u) (h1 : ∀ u ∈ us, u.oneCell' = true)
    (hl : (xs.length + m) * bytes ≤ 140737488355328) (hl2 : xs.length + m ≤ 140737488355328) (hB : B ≤ w.heap.size) :
    ∃ v' w', (Builtin.append_ #[ts, ts] ty #[v, .slice (some ad) m cp]).run Tryd.prog w = .ok v' w' ∧ VRow te B w' v' (xs ++ us) ∧ w.grownBy w' v.ownBlock ∧ (∀ k, v'.ownBlock = some k → v.ownBlock = some k ∨ w.heap.size ≤ k) := by
  obtain ⟨i0, hi, hz0, hz1, hz2⟩ := info_parts hin
  have hown' := hown
  unfold VRow at hown
  have fin : ∀ (w' : World) (v' : Value) (B' : Nat), B ≤ B' → w'.ownsRow B' te 1 v' (xs.length + m) (xs ++ us) → VRow te B w' v' (xs ++ us) := by
    intro w' v' B' hB' h
    unfold VRow
    rw [List.length_append, hm]
    refine ⟨h.1, ?_⟩
    rcases h.2 with h5 | ⟨g', cap', cur', he, hb', hrest⟩
    · exact .inl h5
    · exact .inr ⟨g', cap', cur', he, Nat.le_trans hB' hb', hrest⟩
  rcases hown.2 with ⟨rfl, h0⟩ | ⟨g, cap, cur, rfl, hbg, hg, hnc, hcm, hcs, htake⟩
  · have hx : xs = [] := List.eq_nil_of_length_eq_zero h0
    subst hx
    obtain ⟨v', w', hr, h2, h3, _⟩ := run_append_own (P := Tryd.prog) w w.heap.size ts ty te i0 z 1 bytes hu hi hz0 hz1 hz2 hzs (by decide) (.slice none 0 0) 0 [] (World.ownsRow_nil _ _ _ _) ad m cp us (by rw [hm, Nat.mul_one]) hc h1 (by unfold maxLen; simp at hl2 ⊢; omega) (by simpa using hl) (Nat.le_refl _)
    refine ⟨v', w', hr, fin _ _ _ hB (by simpa using h2), h3, fun k hk => .inr (World.ownsRow.lt h2 k hk).1⟩
  · by_cases hroom : xs.length + m ≤ cap
    · obtain ⟨w', hr, h2, h3⟩ := run_append_own_spare (P := Tryd.prog) w B ts ty te i0 1 hu hi hz1 g xs.length cap _ hown ad m cp us (by rw [hm, Nat.mul_one]) hc h1 hroom
      exact ⟨_, w', hr, fin _ _ _ (Nat.le_refl _) h2, h3, fun k hk => .inl (by simpa [Value.ownBlock] using hk)⟩
    · have hcells := World.ownsRow.cells hown (g := g) rfl
      obtain ⟨v', w', hr, h2, h3⟩ := run_append_arg_grows (P := Tryd.prog) w ts ty te i0 z 1 bytes hu hi hz0 hz1 hz2 hzs (by decide) ⟨g, 0, none⟩ xs.length cap _ hown.1 hcells ad m cp us (by rw [hm, Nat.mul_one]) hc (by omega) (by unfold maxLen; omega) hl
      exact ⟨v', w', hr, fin _ _ _ hB h2, ⟨h3.os, h3.tape, h3.output, h3.size, fun k hk _ => h3.block k hk (by simp)⟩, fun k hk => .inr (World.ownsRow.lt h2 k hk).1⟩

theorem run_mapp_nil (w : World) (B : Nat) (ts ty te : TypeId) (z : Value) (bytes : Nat) (hu : Tryd.prog.underlying ts = some (.slice te)) (hin : (Tryd.prog.info? te).map (fun i => (i.zero, i.size, i.bytes)) = some (some z, 1, bytes))
    (v : Value) (xs : List Value) (hown : VRow te B w v xs) (c : Nat) : (Builtin.append_ #[ts, ts] ty #[v, .slice none 0 c]).run Tryd.prog w = .ok v w := by
  obtain ⟨i0, hi, hz0, hz1, hz2⟩ := info_parts hin
  unfold VRow at hown
  generalize hn : xs.length = n at hown
  clear hn
  rcases hown.2 with ⟨rfl, rfl⟩ | ⟨g, cap, cur, rfl, _, _, hcap, _⟩
  · simp [Builtin.append_, run_underlying hu, sizeOf, typeInfo, hi, Builtin.lenOf, Builtin.firstCells]
  · simp [Builtin.append_, run_underlying hu, sizeOf, typeInfo, hi, Builtin.lenOf, Builtin.firstCells, hcap, storeCells]

end Go.Proofs.YtfngomlknhappaaDoor.CellsA
