/-
  The document's own whole numbers: FillBytes. Conditions: in each statement.
-/
import Derived.Test.YtmmmogccjopfeaaDoorBigMul
import Derived.Test.YtmmmogccjopfeaaDoorBytesX
import Derived.Test.YtmmmogccjopfeaaDoorVecM
namespace Go.Proofs.YtmmmogccjopfeaaDoor.BigFillW
open Go.RowKit BytesW CellsW WordsW ArrW BigW BigNewW BigMulW

/-- Byte k of the number with the digits d, the lowest one first. -/
def fb (d : List Nat) (k : Nat) : UInt8 := UInt8.ofNat (d.getD (k / 4) 0 / 2 ^ (k % 4 * 8))
def be (d : List Nat) (n : Nat) : List UInt8 := (List.range n).map fun p => fb d (n - 1 - p)

theorem getD_set_at_ne (L : List UInt8) (k m : Nat) (v : UInt8) (h : m ≠ k) : (L.set k v).getD m 0 = L.getD m 0 := by simp [List.getD_eq_getElem?_getD, List.getElem?_set_ne (Ne.symm h)]
theorem fill_step {L : List UInt8} {n k j : Nat} {d : List Nat} (hj : n - 1 - k = j) (hk : k < n) (hl : L.length = n) (h : ∀ p, n ≤ p + k → p < n → p ≠ j → L.getD p 0 = fb d (n - 1 - p)) :
    ∀ p, n ≤ p + (k + 1) → p < n → (L.set j (fb d k)).getD p 0 = fb d (n - 1 - p) := by
  intro p h1 h2
  by_cases hp : p = j
  · subst hp
    rw [List.getD_eq_getElem?_getD, List.getElem?_set_self (by omega)]
    show fb d k = _
    congr 1
    omega
  · rw [getD_set_at_ne _ _ _ _ hp]
    exact h p (by omega) h2 hp

set_option maxHeartbeats 4000000 in
set_option maxRecDepth 100000 in
theorem fill_any (B g gx n c cx : Nat) (neg : Bool) (A : Option Addr) (d : List Nat) (l : List UInt8) (w : World) (ax : Arr w gx 35 [.bool neg, .slice A d.length cx]) (ux : Us w B A d) (hgx : gx < B) (sx : ∀ x ∈ d, x < 4294967296)
    (hr : Row B w (.slice (some ⟨g, 0, none⟩) n c) l) (hl : l.length = n) (hn : n ≤ 1048576) (hd : d.length ≤ 1048576) :
    Calls Tryd.prog 12 #[.pointer (some ⟨gx, 0, none⟩), .slice (some ⟨g, 0, none⟩) n c] w fun e w' => e = .returned (.slice (some ⟨g, 0, none⟩) n c) ∧ Row B w' (.slice (some ⟨g, 0, none⟩) n c) (be d n) ∧ Below B w w' := by
  go_enter Tryd.func12, Tryd.ntmps12
  go_wp2
  go_loopw [8] (fun vi wr => ∃ (k : Nat) (L : List UInt8), k ≤ n ∧ vi = .int .i64 (k : Int) ∧ Row B wr (.slice (some ⟨g, 0, none⟩) n c) L ∧ L.length = n ∧ (∀ p, n ≤ p + k → p < n → L.getD p 0 = fb d (n - 1 - p)) ∧ Below B w wr) (fun vi _ => n - (intOf vi).toNat)
  case atStart => exact ⟨0, l, Nat.zero_le _, rfl, hr, hl, fun p h1 h2 => by omega, Below.refl _ _⟩
  case round =>
    clear hr hl
    obtain ⟨k, L, hk, rfl, hr, hl, hL, hb⟩ := hrel
    have HL := Lib.hid hL
    have Hl := Lib.hid hl
    clear hL
    by_cases hlt : k < n
    · obtain ⟨j, hj⟩ : ∃ j, n - 1 - k = j := ⟨_, rfl⟩
      have hj1 : (n : Int) - 1 - (k : Int) = (j : Int) := by omega
      have hjn : j < n := by omega
      obtain ⟨q, hq⟩ : ∃ q, k / 4 = q := ⟨_, rfl⟩
      obtain ⟨r, hr4⟩ : ∃ r, k % 4 * 8 = r := ⟨_, rfl⟩
      obtain ⟨cj, fj⟩ := hr.at2 j (by omega)
      obtain ⟨g', e, -, hgB, -, -, -⟩ := hr.place (by omega)
      cases e
      have hb2 : Below B w (wr.setCell ⟨g, j, none⟩ (.int .u8 0)) := hb.setCell hgB _
      have hr2 := Row.set2 (l' := L.set j 0) hr hl j 0 0 rfl rfl
      obtain ⟨W, hW⟩ : ∃ W, wr.setCell ⟨g, j, none⟩ (.int .u8 0) = W := ⟨_, rfl⟩
      rw [hW] at hb2 hr2
      obtain ⟨cj2, fj2⟩ := hr2.at2 j (by rw [List.length_set]; omega)
      have kx1 : W.cell? ⟨gx, 1, none⟩ = some (.slice A d.length cx) := (ax.below hb2 hgx).cell 1
      generalize (L.set j 0)[j]'_ = o2 at cj2
      generalize L[j]'_ = o1 at cj
      clear hr hb hl
      by_cases hqd : q < d.length
      · obtain ⟨ad, rfl, _, cq⟩ := (ux.below hb2).at_ hqd
        have hs := sx _ (List.getElem_mem hqd)
        have HQ := Lib.hid (show d.getD q 0 = d[q] by simp [List.getD_eq_getElem?_getD, List.getElem?_eq_getElem hqd])
        generalize d[q]'hqd = y at *
        go_wp2
        go_roundw
        case rel =>
          refine ⟨k + 1, (L.set j 0).set j (fb d k), by omega, by go_num, ?_, ?_, ?_, hb2.setCell hgB _⟩
          · refine Row.set2 hr2 (by rw [List.length_set]; exact Hl.out) j (fb d k) _ ?_ rfl
            unfold fb
            rw [hq, hr4, HQ.out, UInt8.toNat_ofNat']
            push_cast
            rfl
          · rw [List.length_set, List.length_set]; exact Hl.out
          · exact fill_step (L := L.set j 0) hj hlt (by rw [List.length_set]; exact Hl.out) fun p h1 h2 h3 => by
              rw [getD_set_at_ne _ _ _ _ h3]
              exact HL.out p h1 h2
        case measure => simp [intOf]; omega
      · have h0 : fb d k = 0 := by
          unfold fb
          rw [hq, List.getD_eq_getElem?_getD, List.getElem?_eq_none (by omega)]
          simp
        have H0 := Lib.hid h0
        clear h0
        go_wp2
        go_roundw
        case rel =>
          refine ⟨k + 1, L.set j 0, by omega, by go_num, hr2, ?_, ?_, hb2⟩
          · rw [List.length_set]; exact Hl.out
          · have h3 := fill_step hj hlt Hl.out fun p h1 h2 _ => HL.out p h1 h2
            rw [H0.out] at h3
            exact h3
        case measure => simp [intOf]; omega
    · obtain rfl : k = n := by omega
      go_wp2
      go_ret
      have e : L = be d k := by
        refine List.ext_getElem (by rw [hl]; simp [be]) fun p h1 h2 => ?_
        have := HL.out p (by omega) (by omega)
        rw [List.getD_eq_getElem?_getD, List.getElem?_eq_getElem h1] at this
        simpa [be] using this
      exact ⟨rfl, by rw [← e]; exact hr, hb⟩

/-- A byte of the number, by its value. -/
theorem fb_dval (d : List Nat) (h : ∀ x ∈ d, x < 4294967296) : ∀ k, fb d k = UInt8.ofNat (dval d / 256 ^ k) := by
  induction d with
  | nil => intro k; simp [fb, dval]
  | cons x r ih =>
    intro k
    have hx := h x (List.mem_cons_self ..)
    apply UInt8.toNat_inj.1
    by_cases hk : k < 4
    · have h4 : k / 4 = 0 := by omega
      have h5 : k % 4 = k := by omega
      simp only [fb, h4, h5, dval, List.getD_cons_zero, UInt8.toNat_ofNat']
      rcases (by omega : k = 0 ∨ k = 1 ∨ k = 2 ∨ k = 3) with rfl | rfl | rfl | rfl <;> simp only [Nat.reducePow, Nat.reduceMul, Nat.pow_zero, Nat.zero_mul] <;> omega
    · obtain ⟨m, rfl⟩ : ∃ m, k = m + 4 := ⟨k - 4, by omega⟩
      have h4 : (m + 4) / 4 = m / 4 + 1 := by omega
      have h5 : (m + 4) % 4 = m % 4 := by omega
      have h6 : (x + 4294967296 * dval r) / 256 ^ (m + 4) = dval r / 256 ^ m := by
        rw [Nat.pow_add, Nat.mul_comm (256 ^ m), ← Nat.div_div_eq_div_mul]
        congr 1
        simp only [Nat.reducePow]
        omega
      rw [fb, h4, h5, List.getD_cons_succ, dval, h6, ← ih fun y hy => h y (List.mem_cons_of_mem _ hy)]
      rfl
theorem int_same {w : World} {g : Nat} {t : TypeId} {b b' : Bool} {A A' : Option Addr} {n n' c c' : Nat} (h : Arr w g t [.bool b, .slice A n c]) (h' : Arr w g t [.bool b', .slice A' n' c']) : n = n' := by
  have e1 : w.cell? ⟨g, 1, none⟩ = some (.slice A n c) := h.cell 1
  have e2 : w.cell? ⟨g, 1, none⟩ = some (.slice A' n' c') := h'.cell 1
  rw [e1] at e2
  cases e2
  rfl
theorem int_len {w : World} {g : Nat} {b b' : Bool} {d d' : List Nat} (h : IntAt w g b d) (h' : IntAt w g b' d') : d.length = d'.length := by
  obtain ⟨⟨A, c, ha, _⟩, _⟩ := h
  obtain ⟨⟨A', c', ha', _⟩, _⟩ := h'
  exact int_same ha ha'
theorem dg_length (n : Nat) : (dg n).length ≤ 2 := by
  unfold dg trimL
  rw [List.length_take]
  simp
  omega
/-- What is not below nought is its digits' value. -/
theorem sgn_nat {neg : Bool} {n : Nat} {m : Nat} (h : (m : Int) = sgn neg n) : n = m := by
  cases neg
  · simp [sgn] at h; omega
  · simp [sgn] at h; omega
theorem be_dval (d : List Nat) (h : ∀ x ∈ d, x < 4294967296) : ∀ n, be d n = VecM.be n (dval d) := by
  intro n
  induction n with
  | zero => rfl
  | succ n ih =>
    rw [VecM.be_cons, ← ih, ← fb_dval d h]
    unfold be
    rw [List.range_succ_eq_map, List.map_cons, List.map_map]
    congr 1
    refine List.map_congr_left fun p hp => ?_
    rw [List.mem_range] at hp
    show fb d (n + 1 - 1 - (p + 1)) = fb d (n - 1 - p)
    congr 1
    omega
theorem int_below {w w' : World} {g : Nat} {b : Bool} {d : List Nat} (h : IntAt w g b d) (hb : Below w.heap.size w w') : IntAt w' g b d := by
  obtain ⟨⟨A, c, ha, hu, hc⟩, hs⟩ := h
  exact ⟨⟨A, c, ha.below hb ha.lt, (hu.below hb).more hb.size, hc⟩, hs⟩
theorem intAt_lt {w : World} {g : Nat} {b : Bool} {d : List Nat} (h : IntAt w g b d) : g < w.heap.size := by
  obtain ⟨⟨A, c, ha, _⟩, _⟩ := h
  exact ha.lt
theorem tidy_len {d : List Nat} (h : Tidy d) {n : Nat} (hn : dval d < 4294967296 ^ n) : d.length ≤ n := by
  rcases h with rfl | h
  · simp
  · rcases List.eq_nil_or_concat d with rfl | ⟨i, x, rfl⟩
    · simp
    · rw [List.concat_eq_append] at *
      have hx : x ≠ 0 := by simpa using h
      rw [dval_append] at hn
      simp only [dval, Nat.mul_zero, Nat.add_zero] at hn
      apply Classical.byContradiction
      intro hl
      rw [List.length_append, List.length_singleton] at hl
      have h1 : 4294967296 ^ n ≤ 4294967296 ^ i.length := Nat.pow_le_pow_right (by decide) (by omega)
      have h2 : 4294967296 ^ i.length * 1 ≤ 4294967296 ^ i.length * x := Nat.mul_le_mul_left _ (by omega)
      omega
end Go.Proofs.YtmmmogccjopfeaaDoor.BigFillW
