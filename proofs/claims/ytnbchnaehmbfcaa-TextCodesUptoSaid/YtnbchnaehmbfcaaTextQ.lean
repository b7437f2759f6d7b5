/-
  Plain mathematics of base64url text read and written bit by bit: it is the text that is read and written group by group. No program is named here. Conditions: none.
-/
import Derived.Test.YtnbchnaehmbfcaaTextN
import Derived.Test.YtnbchnaehmbfcaaTextP
namespace Go.Proofs.Ytnbchnaehmbfcaa.TextQ

def bt (n : Nat) : UInt8 := UInt8.ofNat n

theorem bt_mod (n m : Nat) (h : n % 256 = m % 256) : bt n = UInt8.ofNat m := by
  unfold bt
  apply UInt8.toNat_inj.1
  simp [h]

/-- The bytes out of letters' numbers, bit by bit. -/
def so : List Nat → List UInt8
  | a :: b :: c :: d :: r => bt ((a * 64 + b) / 16) :: bt (((a * 64 + b) % 16 * 64 + c) / 4) :: bt (((a * 64 + b) % 16 * 64 + c) % 4 * 64 + d) :: so r
  | [a, b, c] => [bt ((a * 64 + b) / 16), bt (((a * 64 + b) % 16 * 64 + c) / 4)]
  | [a, b] => [bt ((a * 64 + b) / 16)]
  | [_] => []
  | [] => []

/-- The number of the bits that are left. -/
def sn : List Nat → Nat
  | _ :: _ :: _ :: _ :: r => sn r
  | [a, b, c] => ((a * 64 + b) % 16 * 64 + c) % 4
  | [a, b] => (a * 64 + b) % 16
  | [a] => a
  | [] => 0

theorem s0 (ns : List Nat) (d : Nat) (h : ns.length % 4 = 0) : so (ns ++ [d]) = so ns ∧ sn (ns ++ [d]) = d ∧ sn ns = 0 := by
  induction ns using so.induct with
  | case1 a b c e r ih =>
    obtain ⟨h1, h2, h3⟩ := ih (by simp at h; omega)
    simp [so, sn, h1, h2, h3]
  | case2 a b c => simp at h
  | case3 a b => simp at h
  | case4 a => simp at h
  | case5 => simp [so, sn]

theorem s1 (ns : List Nat) (d : Nat) (h : ns.length % 4 = 1) : so (ns ++ [d]) = so ns ++ [bt ((sn ns * 64 + d) / 16)] ∧ sn (ns ++ [d]) = (sn ns * 64 + d) % 16 := by
  induction ns using so.induct with
  | case1 a b c e r ih =>
    obtain ⟨h1, h2⟩ := ih (by simp at h; omega)
    simp [so, sn, h1, h2]
  | case2 a b c => simp at h
  | case3 a b => simp at h
  | case4 a => simp [so, sn]
  | case5 => simp at h

theorem s2 (ns : List Nat) (d : Nat) (h : ns.length % 4 = 2) : so (ns ++ [d]) = so ns ++ [bt ((sn ns * 64 + d) / 4)] ∧ sn (ns ++ [d]) = (sn ns * 64 + d) % 4 := by
  induction ns using so.induct with
  | case1 a b c e r ih =>
    obtain ⟨h1, h2⟩ := ih (by simp at h; omega)
    simp [so, sn, h1, h2]
  | case2 a b c => simp at h
  | case3 a b => simp [so, sn]
  | case4 a => simp at h
  | case5 => simp at h

theorem s3 (ns : List Nat) (d : Nat) (h : ns.length % 4 = 3) : so (ns ++ [d]) = so ns ++ [bt (sn ns * 64 + d)] ∧ sn (ns ++ [d]) = 0 := by
  induction ns using so.induct with
  | case1 a b c e r ih =>
    obtain ⟨h1, h2⟩ := ih (by simp at h; omega)
    simp [so, sn, h1, h2]
  | case2 a b c => simp [so, sn]
  | case3 a b => simp at h
  | case4 a => simp at h
  | case5 => simp at h

theorem sn_lt (ns : List Nat) (h : ∀ n ∈ ns, n < 64) : (ns.length % 4 = 0 → sn ns = 0) ∧ (ns.length % 4 = 1 → sn ns < 64) ∧ (ns.length % 4 = 2 → sn ns < 16) ∧ (ns.length % 4 = 3 → sn ns < 4) := by
  induction ns using so.induct with
  | case1 a b c e r ih =>
    have := ih (fun n hn => h n (by simp [hn]))
    simp only [sn, List.length_cons]
    refine ⟨fun h => this.1 (by omega), fun h => this.2.1 (by omega), fun h => this.2.2.1 (by omega), fun h => this.2.2.2 (by omega)⟩
  | case2 a b c => simp [sn]; omega
  | case3 a b => simp [sn]; omega
  | case4 a => have := h a (by simp); simp [sn]; omega
  | case5 => simp [sn]

theorem so_length (ns : List Nat) : (so ns).length ≤ ns.length := by
  induction ns using so.induct with
  | case1 a b c e r ih => simp [so]; omega
  | case2 a b c => simp [so]
  | case3 a b => simp [so]
  | case4 a => simp [so]
  | case5 => simp [so]

theorem nums_take {s : List UInt8} {ns : List Nat} (k : Nat) (h : TextN.nums s = some ns) : TextN.nums (s.take k) = some (ns.take k) := by
  induction s generalizing ns k with
  | nil => cases TextP.nums_nil h; simp [TextN.nums]
  | cons c r ih =>
    obtain ⟨n, ms, rfl, hc, hr⟩ := TextP.nums_cons h
    cases k with
    | zero => simp [TextN.nums]
    | succ k => simp [TextN.nums, hc, ih k hr]

theorem nums_drop {s : List UInt8} {ns : List Nat} (k : Nat) (h : TextN.nums s = some ns) : TextN.nums (s.drop k) = some (ns.drop k) := by
  induction s generalizing ns k with
  | nil => cases TextP.nums_nil h; simp [TextN.nums]
  | cons c r ih =>
    obtain ⟨n, ms, rfl, hc, hr⟩ := TextP.nums_cons h
    cases k with
    | zero => simpa using h
    | succ k => simpa using ih k hr

theorem nums_parts {s : List UInt8} (k : Nat) {ns ms : List Nat} (h1 : TextN.nums (s.take k) = some ns) (h2 : TextN.nums (s.drop k) = some ms) : TextN.nums s = some (ns ++ ms) := by
  induction s generalizing ns k with
  | nil =>
    rw [List.take_nil] at h1
    rw [List.drop_nil] at h2
    cases TextP.nums_nil h1
    cases TextP.nums_nil h2
    rfl
  | cons c r ih =>
    cases k with
    | zero => simp [TextN.nums] at h1; subst h1; simpa using h2
    | succ k =>
      simp only [List.take_succ_cons, List.drop_succ_cons] at h1 h2
      obtain ⟨n, ls, rfl, hc, hr⟩ := TextP.nums_cons h1
      have := ih k hr h2
      simp [TextN.nums, hc, this]

/-- The result of reading, out of the letters' numbers. -/
def res (acc : List UInt8) (ns : List Nat) : Nat × List UInt8 := if ns.length % 4 = 1 then (8, []) else if sn ns ≠ 0 then (7, []) else (0, acc ++ so ns)

theorem res_four (acc : List UInt8) (a b c d : Nat) (r : List Nat) (hc : c < 64) (hd : d < 64) :
    res acc (a :: b :: c :: d :: r) = res (acc ++ TextN.three (TextN.wv [a, b, c, d])) r := by
  have e1 : bt ((a * 64 + b) / 16) = UInt8.ofNat (TextN.wv [a, b, c, d] / 65536) := bt_mod _ _ (by simp only [TextN.wv]; omega)
  have e2 : bt (((a * 64 + b) % 16 * 64 + c) / 4) = UInt8.ofNat (TextN.wv [a, b, c, d] / 256) := bt_mod _ _ (by simp only [TextN.wv]; omega)
  have e3 : bt (((a * 64 + b) % 16 * 64 + c) % 4 * 64 + d) = UInt8.ofNat (TextN.wv [a, b, c, d]) := bt_mod _ _ (by simp only [TextN.wv]; omega)
  have hl : (a :: b :: c :: d :: r).length % 4 = r.length % 4 := by simp only [List.length_cons]; omega
  unfold res
  rw [hl]
  simp only [so, sn, e1, e2, e3, TextN.three]
  simp

theorem uncodeF_res (acc s : List UInt8) (ns : List Nat) (h : TextN.nums s = some ns) : TextN.uncodeF acc s = res acc ns := by
  induction acc, s using TextN.uncodeF.induct generalizing ns with
  | case1 acc => cases TextP.nums_nil h; rw [TextN.uncodeF_nil]; simp [res, so, sn]
  | case2 acc s hs h0 ih =>
    rw [TextN.uncodeF_go _ _ hs h0]
    have h1 := nums_take 4 h
    have h2 := nums_drop 4 h
    have hlen := TextN.nums_length h
    have hlt := TextN.nums_lt h
    rw [ih _ h2]
    obtain ⟨ms, hm, hl1, hz, hr⟩ := TextP.rg_zero h0
    rw [h1] at hm
    cases hm
    rw [hr]
    match ns, hlen with
    | [], hlen => simp at hlen; exact absurd hlen.symm (by simpa using hs)
    | [a], hlen => rw [List.length_take, ← hlen] at hl1; simp at hl1
    | [a, b], hlen =>
      have := hlt a (by simp); have := hlt b (by simp)
      have hg : (s.take 4).length = 2 := by rw [List.length_take, ← hlen]; rfl
      rw [hg] at hz ⊢
      simp only [List.take_succ_cons, List.take_nil, List.drop_succ_cons, List.drop_nil, TextN.wv] at hz ⊢
      have hzero : (a * 64 + b) % 16 = 0 := by omega
      simp only [res, so, sn, TextN.three]
      rw [bt_mod ((a * 64 + b) / 16) ((a * 262144 + b * 4096) / 65536) (by omega)]
      simp [hzero]
    | [a, b, c], hlen =>
      have := hlt a (by simp); have := hlt b (by simp); have := hlt c (by simp)
      have hg : (s.take 4).length = 3 := by rw [List.length_take, ← hlen]; rfl
      rw [hg] at hz ⊢
      simp only [List.take_succ_cons, List.take_nil, List.drop_succ_cons, List.drop_nil, TextN.wv] at hz ⊢
      have hzero : ((a * 64 + b) % 16 * 64 + c) % 4 = 0 := by omega
      simp only [res, so, sn, TextN.three]
      rw [bt_mod ((a * 64 + b) / 16) ((a * 262144 + b * 4096 + c * 64) / 65536) (by omega), bt_mod (((a * 64 + b) % 16 * 64 + c) / 4) ((a * 262144 + b * 4096 + c * 64) / 256) (by omega)]
      simp [hzero]
    | a :: b :: c :: d :: r, hlen =>
      have := hlt a (by simp); have := hlt b (by simp); have := hlt c (by simp); have := hlt d (by simp)
      have hg : (s.take 4).length = 4 := by rw [List.length_take, ← hlen]; simp
      rw [hg, res_four acc a b c d r (by omega) (by omega)]
      simp [TextN.three]
  | case3 acc s hs h0 =>
    rw [TextN.uncodeF_bad _ _ hs h0]
    have h1 := nums_take 4 h
    have hlen := TextN.nums_length h
    have hlt := TextN.nums_lt h
    match ns, hlen with
    | [], hlen => simp at hlen; exact absurd hlen.symm (by simpa using hs)
    | [a], hlen =>
      have hg : (s.take 4).length = 1 := by rw [List.length_take, ← hlen]; rfl
      rw [TextN.rg_short h1 hg]
      simp [res]
    | [a, b], hlen =>
      have := hlt a (by simp); have := hlt b (by simp)
      have hg : (s.take 4).length = 2 := by rw [List.length_take, ← hlen]; rfl
      by_cases hz : TextN.wv ([a, b].take 4) * 2 ^ (8 * (s.take 4).length) % 4294967296 = 0
      · exact absurd (by rw [TextN.rg_ok h1 (by omega) hz]) h0
      · rw [TextN.rg_sum h1 (by omega) hz]
        rw [hg] at hz
        simp only [List.take_succ_cons, List.take_nil, TextN.wv] at hz
        have hnz : sn [a, b] ≠ 0 := by simp only [sn]; omega
        simp [res, hnz]
    | [a, b, c], hlen =>
      have := hlt a (by simp); have := hlt b (by simp); have := hlt c (by simp)
      have hg : (s.take 4).length = 3 := by rw [List.length_take, ← hlen]; rfl
      by_cases hz : TextN.wv ([a, b, c].take 4) * 2 ^ (8 * (s.take 4).length) % 4294967296 = 0
      · exact absurd (by rw [TextN.rg_ok h1 (by omega) hz]) h0
      · rw [TextN.rg_sum h1 (by omega) hz]
        rw [hg] at hz
        simp only [List.take_succ_cons, List.take_nil, TextN.wv] at hz
        have hnz : sn [a, b, c] ≠ 0 := by simp only [sn]; omega
        simp [res, hnz]
    | a :: b :: c :: d :: r, hlen =>
      have hg : (s.take 4).length = 4 := by rw [List.length_take, ← hlen]; simp
      exact absurd (by rw [TextN.rg_ok h1 (by omega) (by rw [hg]; omega)]) h0

theorem uncodeF_form (acc s : List UInt8) (h : TextN.nums s = none) : TextN.uncodeF acc s = (1, []) := by
  induction acc, s using TextN.uncodeF.induct with
  | case1 acc => cases h
  | case2 acc s hs h0 ih =>
    rw [TextN.uncodeF_go _ _ hs h0]
    obtain ⟨ms, hm, _, _, _⟩ := TextP.rg_zero h0
    apply ih
    cases hd : TextN.nums (s.drop 4) with
    | none => rfl
    | some ls => rw [nums_parts 4 hm hd] at h; cases h
  | case3 acc s hs h0 =>
    rw [TextN.uncodeF_bad _ _ hs h0]
    cases hn : TextN.nums (s.take 4) with
    | none => rw [TextN.rg_form hn]
    | some ms =>
      -- the group is the last one: its errors come behind the letters
      exfalso
      by_cases h4 : 4 ≤ s.length
      · have hg : (s.take 4).length = 4 := by rw [List.length_take]; omega
        exact h0 (by rw [TextN.rg_ok hn (by omega) (by rw [hg]; omega)])
      · rw [List.take_of_length_le (by omega)] at hn
        rw [hn] at h; cases h
end Go.Proofs.Ytnbchnaehmbfcaa.TextQ
