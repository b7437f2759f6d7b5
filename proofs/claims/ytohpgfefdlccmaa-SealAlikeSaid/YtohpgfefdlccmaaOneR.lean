/-
  Rows of whole numbers that the call owns: a place, a store, append of a row, append behind a cut; the last reduction and the sum of bytes as plain mathematics. Conditions: in each statement.
-/
import Derived.Test.YtohpgfefdlccmaaOneI
import Derived.Test.YtohpgfefdlccmaaKf
import Derived.Test.YtohpgfefdlccmaaKb
namespace Go.Proofs.Ytohpgfefdlccmaa.OneR
open Go.RowKit BytesW ArrW ArrG CellsW RowsW OneI OneM

def NRow (B : Nat) (w : World) (v : Value) (l : List Nat) : Prop := VRow 3 B w v (ic l)
section
variable {w w' : World} {v : Value} {l : List Nat}
theorem NRow.empty (B : Nat) (w : World) (hB : B ≤ w.heap.size) : NRow B (w.alloc (.cells #[] 3)) (.slice (some ⟨w.heap.size, 0, none⟩) 0 0) [] :=
  World.ownsRow_made w #[] 0 hB (by decide) rfl
theorem NRow.place {B : Nat} {A : Option Addr} {n c : Nat} (h : NRow B w (.slice A n c) l) (h0 : 0 < l.length) :
    ∃ g, A = some ⟨g, 0, none⟩ ∧ n = l.length ∧ l.length ≤ c ∧ B ≤ g ∧ g < w.heap.size ∧ (∀ (k : Nat), k < l.length → w.cell? ⟨g, k, none⟩ = some (.int .i64 ((l.getD k 0 : Nat) : Int))) ∧ (∀ k, w.frozen? ⟨g, k, none⟩ = false) := by
  have h' := h
  unfold NRow VRow at h
  rcases h.2 with ⟨_, h1⟩ | ⟨g, cap, cur, hv, hb, hg, hc, _⟩
  · rw [ic_len] at h1; omega
  · cases hv
    rw [ic_len] at hc h
    refine ⟨g, rfl, ic_len l, hc, hb, (Array.getElem?_eq_some_iff.1 hg).1, fun k hk => ?_, fun k => World.ownsRow.frozenAt h k⟩
    rw [World.ownsRow.cellAt h k (by omega), ic_getD l k hk]
theorem NRow.set {B g n c : Nat} (h : NRow B w (.slice (some ⟨g, 0, none⟩) n c) l) (hn : l.length = n) (k : Nat) (x : Nat) : NRow B (w.setCell ⟨g, k, none⟩ (.int .i64 (x : Int))) (.slice (some ⟨g, 0, none⟩) n c) (l.set k x) := by
  subst hn
  unfold NRow VRow at h ⊢
  rw [ic_len] at h ⊢
  have := (World.ownsRow.stored h k (.int .i64 (x : Int))).1
  rw [List.length_set, ← ic_set]
  exact this
theorem NRow.drew {B : Nat} (h : NRow B w v l) : NRow B w.drew v l := h
theorem NRow.below {B : Nat} (h : NRow B w v l) (hb : Below w.heap.size w w') : NRow B w' v l := VRow.below h hb
end
theorem ic_one (l : List Nat) : ∀ v ∈ ic l, v.oneCell' = true := by
  intro v hv
  unfold ic at hv
  obtain ⟨n, _, rfl⟩ := List.mem_map.1 hv
  rfl
/-- 'append([]int{}, a...)'. -/
theorem run_copy {w : World} {B g0 : Nat} (hr : NRow B w (.slice (some ⟨g0, 0, none⟩) 0 0) []) (ty : TypeId) (ga : Nat) (l : List Nat) (n cp : Nat) (hn : l.length = n) (hn0 : 0 < n) (hl : n ≤ 1000) (ha : ∀ k, k < n → w.cell? ⟨ga, k, none⟩ = some (.int .i64 ((l.getD k 0 : Nat) : Int))) (hB : B ≤ w.heap.size) :
    ∃ gc cc w', (Builtin.append_ #[57, 57] ty #[.slice (some ⟨g0, 0, none⟩) 0 0, .slice (some ⟨ga, 0, none⟩) n cp]).run Try.prog w = .ok (.slice (some ⟨gc, 0, none⟩) n cc) w' ∧ n ≤ cc ∧ NRow B w' (.slice (some ⟨gc, 0, none⟩) n cc) l ∧ Below B w w' := by
  have hE : ∀ (k : Nat), (⟨ga, 0, none⟩ : Addr).add k = ⟨ga, k, none⟩ := fun k => by unfold Addr.add; split <;> simp_all
  obtain ⟨v', w', h1, h2, h3, _⟩ := run_mapp w B 57 ty 3 (.int .i64 0) 8 Try.underlying57 infoInt rfl _ [] hr ⟨ga, 0, none⟩ n cp (ic l) (by rw [ic_len]; exact hn) (fun j u hj => by
    have hjl : j < l.length := by have := (List.getElem?_eq_some_iff.1 hj).1; rwa [ic_len] at this
    rw [hE, ha j (by omega), ← ic_getD l j hjl]
    exact hj) (ic_one l) (by simp; omega) (by simp; omega) hB
  have h2' : NRow B w' v' l := h2
  obtain ⟨A, c, rfl, _, _⟩ := VRow.form h2'
  obtain ⟨g, rfl, hn', hc, _⟩ := NRow.place h2' (by omega)
  rw [ic_len, hn] at h1 h2'
  refine ⟨g, c, w', h1, by omega, h2', (Below.refl B w).grown h3 hB fun k hk => (World.ownsRow.lt hr k hk).1⟩
/-- 'append(c[:n:n], 0)'. -/
theorem run_cut (w : World) (ty : TypeId) (gc : Nat) (l : List Nat) (n : Nat) (hn : l.length = n) (hn0 : 0 < n) (hl : n ≤ 1000) (ha : ∀ k, k < n → w.cell? ⟨gc, k, none⟩ = some (.int .i64 ((l.getD k 0 : Nat) : Int))) (ad : Addr) (x : Nat) (hx : w.cell? ad = some (.int .i64 (x : Int))) :
    ∃ gf cf w', (Builtin.append_ #[57, 57] ty #[.slice (some ⟨gc, 0, none⟩) n n, .slice (some ad) 1 1]).run Try.prog w = .ok (.slice (some ⟨gf, 0, none⟩) (n + 1) cf) w' ∧ n + 1 ≤ cf ∧ NRow w.heap.size w' (.slice (some ⟨gf, 0, none⟩) (n + 1) cf) (l ++ [x]) ∧ Below w.heap.size w w' := by
  have hE : ∀ (k : Nat), (⟨gc, 0, none⟩ : Addr).add k = ⟨gc, k, none⟩ := fun k => by unfold Addr.add; split <;> simp_all
  obtain ⟨i0, hi, hz0, hz1, hz2⟩ := info_parts infoInt
  obtain ⟨v', w', h1, h2, h3⟩ := run_append_arg_grows (P := Try.prog) w 57 ty 3 i0 (.int .i64 0) 1 8 Try.underlying57 hi hz0 hz1 hz2 rfl (by decide) ⟨gc, 0, none⟩ n n (ic l) (by rw [ic_len, hn, Nat.mul_one]) (fun j u hj => by
    have hjl : j < l.length := by have := (List.getElem?_eq_some_iff.1 hj).1; rwa [ic_len] at this
    rw [hE, ha j (by omega), ← ic_getD l j hjl]
    exact hj) ad 1 1 [.int .i64 (x : Int)] rfl (fun j u hj => by
      match j, hj with
      | 0, hj => simp at hj; subst hj; rw [add_zero]; exact hx) (by omega) (by unfold maxLen; omega) (by omega)
  have h2' : NRow w.heap.size w' v' (l ++ [x]) := by
    unfold NRow VRow
    have e : ic (l ++ [x]) = ic l ++ [.int .i64 (x : Int)] := by simp [ic]
    rw [e, List.length_append, ic_len, hn]
    exact h2
  obtain ⟨A, c, rfl, _, _⟩ := VRow.form h2'
  obtain ⟨g, rfl, hn', hc, _⟩ := NRow.place h2' (by simp)
  have e : (ic (l ++ [x])).length = n + 1 := by rw [ic_len]; simp [hn]
  rw [e] at h1 h2'
  refine ⟨g, c, w', h1, by simp at hc; omega, h2', ⟨h3.os, h3.tape, h3.output, h3.size, fun k hk => h3.block k hk (by simp)⟩⟩

/-- One carry of the last reduction. -/
def stepF (C : List Nat) (k : Nat) : List Nat := (C.set (k + 1) (C.getD (k + 1) 0 + C.getD k 0 / 8192)).set k (C.getD k 0 % 8192)
def AtF (C : List Nat) (k : Nat) : Prop := C.length = 11 ∧ (∀ m, m < k → C.getD m 0 < 8192) ∧ C.getD k 0 < 16384 ∧ (∀ m, k < m → m < 11 → C.getD m 0 < 8192)
theorem AtF.start {a : List Nat} (h : DoneC a) : AtF (a.set 0 (a.getD 0 0 + 5)) 0 := by
  refine ⟨by simp [h.1], fun m hm => absurd hm (by omega), ?_, fun m h1 h2 => ?_⟩
  · rw [OneM.getD_set_same _ _ _ (by rw [h.1]; decide)]
    have := h.2.1 0 (by decide)
    omega
  · rw [OneM.getD_set_ne _ _ _ _ (by omega)]
    by_cases e : m = 10
    · subst e; rw [h.2.2]; decide
    · exact h.2.1 m (by omega)
theorem start_num {a : List Nat} (h : DoneC a) : num (a.set 0 (a.getD 0 0 + 5)) = num a + 5 := by
  have h1 := num_set a 0 (a.getD 0 0 + 5) (by rw [h.1]; decide)
  omega
theorem AtF.step {C : List Nat} {k : Nat} (h : AtF C k) (hk : k < 10) : AtF (stepF C k) (k + 1) := by
  obtain ⟨h1, h2, h3, h4⟩ := h
  refine ⟨by simp [stepF, h1], fun m hm => ?_, ?_, fun m hm1 hm2 => ?_⟩
  · unfold stepF
    by_cases e : m = k
    · subst e; rw [OneM.getD_set_same _ _ _ (by simp; omega)]; exact Nat.mod_lt _ (by decide)
    · rw [OneM.getD_set_ne _ _ _ _ e, OneM.getD_set_ne _ _ _ _ (by omega)]; exact h2 m (by omega)
  · unfold stepF
    rw [OneM.getD_set_ne _ _ _ _ (by omega), OneM.getD_set_same _ _ _ (by omega)]
    have := h4 (k + 1) (by omega) (by omega)
    omega
  · unfold stepF
    rw [OneM.getD_set_ne _ _ _ _ (by omega), OneM.getD_set_ne _ _ _ _ (by omega)]
    exact h4 m (by omega) hm2
theorem stepF_num (C : List Nat) (k : Nat) (hl : C.length = 11) (hk : k < 10) : num (stepF C k) = num C := by
  unfold stepF
  have h1 := num_set C (k + 1) (C.getD (k + 1) 0 + C.getD k 0 / 8192) (by omega)
  have h2 := num_set (C.set (k + 1) (C.getD (k + 1) 0 + C.getD k 0 / 8192)) k (C.getD k 0 % 8192) (by simp; omega)
  rw [OneM.getD_set_ne _ _ _ _ (by omega)] at h2
  rw [Nat.add_mul, Nat.pow_succ] at h1
  have e : C.getD k 0 * 8192 ^ k = C.getD k 0 % 8192 * 8192 ^ k + C.getD k 0 / 8192 * (8192 ^ k * 8192) := by
    have e1 := Nat.mod_add_div (C.getD k 0) 8192
    have e2 : C.getD k 0 / 8192 * (8192 ^ k * 8192) = 8192 * (C.getD k 0 / 8192) * 8192 ^ k := by
      rw [Nat.mul_comm (8192 ^ k), ← Nat.mul_assoc, Nat.mul_comm (C.getD k 0 / 8192) 8192]
    rw [e2, ← Nat.add_mul, e1]
  omega
/-- The bytes so far, noughts behind them. -/
def outS (S k : Nat) : List UInt8 := (le16 S).take k ++ List.replicate (16 - k) 0
theorem outS_len (S k : Nat) (h : k ≤ 16) : (outS S k).length = 16 := by simp [outS, le_len]; omega
theorem outS_zero (S : Nat) : outS S 0 = List.replicate 16 0 := by simp [outS]
theorem outS_all (S : Nat) : outS S 16 = le16 S := by
  unfold outS
  rw [List.take_of_length_le (by rw [le_len]; exact Nat.le_refl _)]
  simp
theorem le_at (S k : Nat) (h : k < 16) : (le16 S)[k]'(by rw [le_len]; exact h) = UInt8.ofNat (S / 256 ^ k) := by simp [le16]
theorem outS_set (S k : Nat) (h : k < 16) : (outS S k).set k (UInt8.ofNat (S / 256 ^ k)) = outS S (k + 1) := by
  have h1 : ((le16 S).take k).length = k := by rw [List.length_take, le_len]; omega
  unfold outS
  rw [List.set_append, if_neg (by omega), h1, Nat.sub_self, show 16 - k = (16 - (k + 1)) + 1 by omega, List.replicate_succ, List.set_cons_zero, List.take_succ_eq_append_getElem (by rw [le_len]; exact h), le_at S k h, List.append_assoc]
  rfl
/-- The bits of byte k so far. -/
theorem bits_step (V k i : Nat) : V / 256 ^ k % 2 ^ (i + 1) = V / 256 ^ k % 2 ^ i + V / 2 ^ (8 * k + i) % 2 * 2 ^ i := by
  rw [mod_succ, Nat.pow_add, ← Nat.div_div_eq_div_mul, show (2 : Nat) ^ (8 * k) = 256 ^ k by rw [Nat.pow_mul]]
theorem carry_le (X Y k : Nat) : carryS X Y k ≤ 1 := by
  unfold carryS
  have hp : 0 < 256 ^ k := Nat.pow_pos (by decide)
  have h1 := Nat.mod_lt X hp
  have h2 := Nat.mod_lt Y hp
  have : (X % 256 ^ k + Y % 256 ^ k) / 256 ^ k < 2 := Nat.div_lt_of_lt_mul (by omega)
  omega
theorem carry_zero (X Y : Nat) : carryS X Y 0 = 0 := by simp [carryS, Nat.mod_one]
end Go.Proofs.Ytohpgfefdlccmaa.OneR
