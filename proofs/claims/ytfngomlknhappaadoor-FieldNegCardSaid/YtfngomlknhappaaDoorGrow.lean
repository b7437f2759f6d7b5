/-
  A region that draws its order and in which a number of operations only make new memory (or read what stays as it is): whatever the order, each knows of what it waited for what is claimed of it, and claims something that stays true while memory grows. Behind them a tree of schedules goes on. No program is named here. Conditions: in the last theorem.
-/
import Derived.Test.YtfngomlknhappaaDoorKc
import Derived.Test.YtfngomlknhappaaDoorKd
namespace Go.Proofs.YtfngomlknhappaaDoor.Grow
open Go Go.RowKit BytesW Phase

section
variable {P : Program} {ops : Array Oper} {Q : Exit → Act → World → Prop} {S : World → Prop}

/-- Edges go back. -/
def backOk (l : List Oper) : Bool := (List.range l.length).all fun j => match l[j]? with
  | some o => o.after.toList.all fun e => decide (e.on < j)
  | none => true
/-- Each of these writes a slot of its own and stands under no guard. -/
def slotOk (l : List Oper) (ph : List Nat) (ds : Nat → Nat) (n : Nat) : Bool := ph.all fun i => match l[i]? with
  | some o => o.dst == some (ds i) && o.guard.isNone && decide (ds i < n)
  | none => false
def setAll (ph : List Nat) (listed : Array Bool) : Array Bool := ph.foldl (fun l i => l.setIfInBounds i true) listed

theorem setAll_size (ph : List Nat) : ∀ listed : Array Bool, (setAll ph listed).size = listed.size := by
  induction ph with
  | nil => intro _; rfl
  | cons i ph ih => intro listed; unfold setAll; rw [List.foldl_cons]; exact (ih _).trans (by simp)
theorem setAll_at (ph : List Nat) : ∀ (listed : Array Bool) (k : Nat), (∀ i ∈ ph, i < listed.size) → (setAll ph listed)[k]? = if k ∈ ph then some true else listed[k]? := by
  induction ph with
  | nil => intro listed k _; simp [setAll]
  | cons i ph ih =>
    intro listed k h
    unfold setAll
    rw [List.foldl_cons]
    have h1 := ih (listed.setIfInBounds i true) k (fun j hj => by rw [Array.size_setIfInBounds]; exact h j (List.mem_cons_of_mem _ hj))
    unfold setAll at h1
    rw [h1]
    have hi := h i (List.mem_cons_self ..)
    by_cases hk : k ∈ ph
    · rw [if_pos hk, if_pos (List.mem_cons_of_mem _ hk)]
    · rw [if_neg hk]
      by_cases hki : k = i
      · subst hki
        rw [if_pos (List.mem_cons_self ..)]
        simp [hi]
      · rw [if_neg (by simp [hk, hki])]
        rw [Array.getElem?_setIfInBounds, if_neg (fun e => hki e.symm)]

/-- What is known while some have come up. -/
structure Inv (ph : List Nat) (ds : Nat → Nat) (C : Nat → Value → World → Prop) (a0 : Act) (listed : Array Bool) (a : Act) (w : World) : Prop where
  defers : a.defers = a0.defers
  size : a.tmps.size = a0.tmps.size
  off : ∀ k, (∀ i ∈ ph, ds i ≠ k) → a.tmps[k]? = a0.tmps[k]?
  on : ∀ i ∈ ph, listed.getD i false = true → ∃ v, a.tmps[ds i]? = some v ∧ C i v w

/-- One operation's step, whenever it comes up. -/
def StepAt (P : Program) (ops : Array Oper) (Q : Exit → Act → World → Prop) (S : World → Prop) (ph : List Nat) (ds : Nat → Nat) (C : Nat → Value → World → Prop) (a0 : Act) (i : Nat) : Prop :=
  ∀ o, ops[i]? = some o → ∀ (a : Act) (w : World), S w → (∀ k, (∀ j ∈ ph, ds j ≠ k) → a.tmps[k]? = a0.tmps[k]?) →
    (∀ j ∈ ph, (o.after.toList.any fun e => Region.binds .any e && e.on == j) = true → ∃ v, a.tmps[ds j]? = some v ∧ C j v w) →
    ∀ K : Act → World → Prop, (∀ v w', Below w.heap.size w w' → S w' → C i v w' → K (a.put (some (ds i)) v) w') → o.wp P a w K Q

theorem filter_one (ph : List Nat) (hn : ph.Nodup) (p p' : Nat → Bool) (i : Nat) (hi : i ∈ ph) (hp : p i = true) (h : ∀ j, p' j = (p j && decide (j ≠ i))) : (ph.filter p').length + 1 = (ph.filter p).length := by
  induction ph with
  | nil => cases hi
  | cons x ph ih =>
    obtain ⟨hx, hn'⟩ := List.nodup_cons.1 hn
    by_cases hxi : x = i
    · subst hxi
      have e : ph.filter p' = ph.filter p := by
        apply List.filter_congr
        intro j hj
        rw [h j]
        have : j ≠ x := fun e => hx (by rw [← e]; exact hj)
        simp [this]
      have hpx : p' x = false := by rw [h x]; simp
      rw [List.filter_cons_of_neg (by simp [hpx]), List.filter_cons_of_pos hp, e, List.length_cons]
    · have hi' : i ∈ ph := by
        rcases List.mem_cons.1 hi with e | e
        · exact absurd e.symm hxi
        · exact e
      have := ih hn' hi'
      have hpx : p' x = p x := by rw [h x]; simp [hxi]
      cases hq : p x with
      | true => rw [List.filter_cons_of_pos (by rw [hpx]; exact hq), List.filter_cons_of_pos hq, List.length_cons, List.length_cons]; omega
      | false => rw [List.filter_cons_of_neg (by rw [hpx, hq]; decide), List.filter_cons_of_neg (by rw [hq]; decide)]; exact this

theorem grow_sound {l : List Oper} {ph : List Nat} {ds : Nat → Nat} {C : Nat → Value → World → Prop} {a0 : Act} {m : Sch} {listed0 : Array Bool}
    (hs : Region.noSelect l.toArray = true) (hQ : ∀ c a d v w, Q (.panic c) (a.put d v) w → Q (.panic c) a w)
    (hback : backOk l = true) (hslot : slotOk l ph ds a0.tmps.size = true) (hinj : ∀ i ∈ ph, ∀ j ∈ ph, ds i = ds j → i = j) (hnd : ∀ i ∈ ph, i < l.length) (hnodup : ph.Nodup)
    (hC : ∀ i ∈ ph, ∀ v w w', C i v w → Below w.heap.size w w' → C i v w')
    (hstep : ∀ i ∈ ph, StepAt P l.toArray Q S ph ds C a0 i)
    (hsz0 : listed0.size = l.length) (hl0 : ∀ j, listed0.getD j true = false → j ∉ ph → ∀ i ∈ ph, Phase.Reach .any l.toArray j i)
    (hm : treeOk l.toArray m (setAll ph listed0) = true)
    (hend : ∀ a w, S w → Inv ph ds C a0 (setAll ph listed0) a w → wpTree P l.toArray S Q m a w) :
    ∀ (r fuel : Nat) (listed : Array Bool) (a : Act) (w : World), (ph.filter fun i => !listed.getD i false).length = r → r + m.depth ≤ fuel → Closed .any l.toArray listed → listed.size = l.length →
      (∀ j, j ∉ ph → listed.getD j true = listed0.getD j true) → S w → Inv ph ds C a0 listed a w → wpAnyH P .any l.toArray Q S fuel listed a w := by
  intro r
  induction r with
  | zero =>
    intro fuel listed a w hr hf hc hsz hoff hS hI
    have hall : ∀ i ∈ ph, listed.getD i false = true := by
      intro i hi
      have h1 : (ph.filter fun i => !listed.getD i false) = [] := List.length_eq_zero_iff.1 hr
      have h2 := List.filter_eq_nil_iff.1 h1 i hi
      simpa using h2
    have he : listed = setAll ph listed0 := by
      apply Array.ext_getElem?
      intro k
      rw [setAll_at ph listed0 k (fun i hi => by rw [hsz0]; exact hnd i hi)]
      by_cases hk : k ∈ ph
      · rw [if_pos hk]
        have h1 := hall k hk
        have hlt : k < listed.size := by rw [hsz]; exact hnd k hk
        simp only [Array.getD, hlt, dif_pos] at h1
        rw [Array.getElem?_eq_getElem hlt]
        exact congrArg some (by simpa using h1)
      · rw [if_neg hk]
        have h1 := hoff k hk
        by_cases hlt : k < l.length
        · have e1 : k < listed.size := by omega
          have e2 : k < listed0.size := by omega
          simp only [Array.getD, e1, e2, dif_pos] at h1
          rw [Array.getElem?_eq_getElem e1, Array.getElem?_eq_getElem e2]
          exact congrArg some (by simpa using h1)
        · rw [Array.getElem?_eq_none (by omega), Array.getElem?_eq_none (by omega)]
    rw [he] at hI ⊢
    exact tree_sound hs hQ m fuel _ a w (by omega) hm (hend a w hS hI) hS
  | succ r ih =>
    intro fuel listed a w hr hf hc hsz hoff hS hI
    obtain ⟨fuel, rfl⟩ : ∃ f, fuel = f + 1 := ⟨fuel - 1, by omega⟩
    -- one of the phase is not listed
    obtain ⟨i0, hi0, hun0⟩ : ∃ i ∈ ph, listed.getD i false = false := by
      have hne : (ph.filter fun i => !listed.getD i false) ≠ [] := fun h => by rw [h] at hr; simp at hr
      obtain ⟨i, hi⟩ := List.exists_mem_of_ne_nil _ hne
      rw [List.mem_filter] at hi
      exact ⟨i, hi.1, by simpa using hi.2⟩
    have hlt0 : i0 < listed.size := by rw [hsz]; exact hnd i0 hi0
    have hun0' : listed.getD i0 true = false := by
      simp only [Array.getD, hlt0, dif_pos] at hun0 ⊢
      exact hun0
    have houter : Outer .any l.toArray ph listed := fun j o hj hl hp i hi => hl0 j (by rw [← hoff j hp]; exact hl) hp i hi
    have hin : ∀ j ∈ Region.ready .any l.toArray listed, j ∈ ph := fun j hj => ready_in hc houter hi0 hun0' hj
    -- something is ready: the first that is not listed
    have hready : Region.ready .any l.toArray listed ≠ [] := by
      have : ∀ n, (∃ k, k ≤ n ∧ listed.getD k true = false) → ∃ k, listed.getD k true = false ∧ ∀ q, q < k → listed.getD q true = true := by
        intro n
        induction n with
        | zero => rintro ⟨k, hk, h⟩; exact ⟨0, by rw [show k = 0 by omega] at h; exact h, fun q hq => by omega⟩
        | succ n ihn =>
          rintro ⟨k, hk, h⟩
          by_cases hx : ∃ k, k ≤ n ∧ listed.getD k true = false
          · exact ihn hx
          · refine ⟨k, h, fun q hq => ?_⟩
            cases hq2 : listed.getD q true with
            | true => rfl
            | false => exact absurd ⟨q, by omega, hq2⟩ hx
      obtain ⟨k, hk, hfirst⟩ := this i0 ⟨i0, Nat.le_refl _, hun0'⟩
      have hkl : k < l.length := by
        rcases Nat.lt_or_ge k l.length with h | h
        · exact h
        · exfalso
          have : ¬ k < listed.size := by omega
          simp [Array.getD, this] at hk
      have hkr : k ∈ Region.ready .any l.toArray listed := by
        refine mem_ready.2 ⟨hk, l[k], by simp [hkl], fun e he _ => ?_⟩
        unfold backOk at hback
        rw [List.all_eq_true] at hback
        have h1 := hback k (by simp [hkl])
        simp only [List.getElem?_eq_getElem hkl, List.all_eq_true] at h1
        have h2 := h1 e (by simpa using he)
        have h3 := hfirst e.on (by simpa using h2)
        have hes : e.on < listed.size := by
          have : e.on < k := by simpa using h2
          omega
        simp only [Array.getD, hes, dif_pos] at h3 ⊢
        exact h3
      intro h
      rw [h] at hkr
      cases hkr
    refine wpAnyH_all rfl hready fun i hi => ?_
    have hip := hin i hi
    obtain ⟨hun, o, hoi, hall⟩ := mem_ready.1 hi
    have hil := hnd i hip
    have hso : o.dst = some (ds i) ∧ o.guard = none ∧ ds i < a0.tmps.size := by
      unfold slotOk at hslot
      rw [List.all_eq_true] at hslot
      have h1 := hslot i hip
      have hoi' : l[i]? = some o := by simpa using hoi
      simp only [hoi', Bool.and_eq_true, beq_iff_eq, Option.isNone_iff_eq_none, decide_eq_true_eq] at h1
      exact ⟨h1.1.1, h1.1.2, h1.2⟩
    unfold wpOp
    simp only [hoi]
    rw [if_pos (by unfold Region.wanted; rw [hso.2.1])]
    refine .inl (hstep i hip o hoi a w hS hI.off (fun j hj hd => hI.on j hj ?_) _ (fun v w' hb hS' hC' => ?_))
    · rw [List.any_eq_true] at hd
      obtain ⟨e, he, hcond⟩ := hd
      simp only [Bool.and_eq_true, beq_iff_eq] at hcond
      rw [← hcond.2]
      exact hall e (by simpa using he) hcond.1
    · refine ⟨hS', ?_⟩
      have hilt : i < listed.size := by omega
      have hset : ∀ j, (listed.setIfInBounds i true).getD j false = if j = i then true else listed.getD j false := by
        intro j
        by_cases hji : j = i
        · subst hji; simp [Array.getD, hilt]
        · rw [if_neg hji, getD_set_ne false (fun e => hji e.symm)]
      have hset2 : ∀ j, j ∉ ph → (listed.setIfInBounds i true).getD j true = listed.getD j true := by
        intro j hj
        exact getD_set_ne true (fun e => hj (by rw [← e]; exact hip))
      refine ih fuel _ _ w' ?_ (by omega) (hc.set hi) (by rw [Array.size_setIfInBounds]; exact hsz) (fun j hj => (hset2 j hj).trans (hoff j hj)) hS' ?_
      · have hone := filter_one ph hnodup (fun j => !listed.getD j false) (fun j => !(listed.setIfInBounds i true).getD j false) i hip (by
          have : listed.getD i false = false := by
            simp only [Array.getD, hilt, dif_pos] at hun ⊢
            exact hun
          simp [this]) (fun j => by
          show (!(listed.setIfInBounds i true).getD j false) = (!listed.getD j false && decide (j ≠ i))
          rw [hset]
          by_cases hji : j = i
          · rw [if_pos hji]; simp [hji]
          · rw [if_neg hji]; simp [hji])
        omega
      · refine ⟨hI.defers, by simp [Act.put, hI.size], fun k hk => ?_, fun j hj hl => ?_⟩
        · have hne : ds i ≠ k := hk i hip
          simp only [Act.put]
          rw [Array.getElem?_setIfInBounds, if_neg hne]
          exact hI.off k hk
        · simp only [Act.put]
          rw [Array.getElem?_setIfInBounds]
          by_cases hji : j = i
          · subst hji
            rw [if_pos rfl, if_pos (by rw [hI.size]; exact hso.2.2)]
            exact ⟨v, rfl, hC'⟩
          · rw [if_neg (fun e => hji (hinj j hj i hip e.symm))]
            rw [hset, if_neg hji] at hl
            obtain ⟨v', h1, h2⟩ := hI.on j hj hl
            exact ⟨v', h1, hC j hj v' w w' h2 hb⟩

/-- Slots filled. -/
def puts (a : Act) (ps : List (Nat × Value)) : Act := ps.foldl (fun a p => a.put (some p.1) p.2) a
theorem puts_defers (ps : List (Nat × Value)) : ∀ a : Act, (puts a ps).defers = a.defers := by
  induction ps with
  | nil => intro a; rfl
  | cons p ps ih => intro a; exact (ih _).trans rfl
theorem puts_size (ps : List (Nat × Value)) : ∀ a : Act, (puts a ps).tmps.size = a.tmps.size := by
  induction ps with
  | nil => intro a; rfl
  | cons p ps ih => intro a; exact (ih _).trans (by simp [Act.put])
theorem puts_off (ds : Nat → Nat) (f : Nat → Value) (l : List Nat) (k : Nat) : ∀ a : Act, (∀ i ∈ l, ds i ≠ k) → (puts a (l.map fun i => (ds i, f i))).tmps[k]? = a.tmps[k]? := by
  induction l with
  | nil => intro a _; rfl
  | cons i l ih =>
    intro a h
    refine (ih _ (fun j hj => h j (List.mem_cons_of_mem _ hj))).trans ?_
    simp only [Act.put]
    rw [Array.getElem?_setIfInBounds, if_neg (h i (List.mem_cons_self ..))]
theorem puts_on (ds : Nat → Nat) (f : Nat → Value) (l : List Nat) : ∀ a : Act, (∀ i ∈ l, ∀ j ∈ l, ds i = ds j → i = j) → l.Nodup → (∀ i ∈ l, ds i < a.tmps.size) → ∀ i ∈ l, (puts a (l.map fun i => (ds i, f i))).tmps[ds i]? = some (f i) := by
  induction l with
  | nil => intro a _ _ _ i hi; cases hi
  | cons x l ih =>
    intro a hinj hn hb i hi
    obtain ⟨hx, hn'⟩ := List.nodup_cons.1 hn
    rcases List.mem_cons.1 hi with e | e
    · subst e
      refine (puts_off ds f l (ds i) _ (fun j hj e => ?_)).trans ?_
      · have := hinj j (List.mem_cons_of_mem _ hj) i (List.mem_cons_self ..) e
        rw [this] at hj
        exact hx hj
      · simp only [Act.put]
        rw [Array.getElem?_setIfInBounds, if_pos rfl, if_pos (hb i (List.mem_cons_self ..))]
    · exact ih _ (fun i hi j hj => hinj i (List.mem_cons_of_mem _ hi) j (List.mem_cons_of_mem _ hj)) hn' (fun i hi => by simp only [Act.put, Array.size_setIfInBounds]; exact hb i (List.mem_cons_of_mem _ hi)) i e
theorem puts_of {ph : List Nat} {ds : Nat → Nat} {C : Nat → Value → World → Prop} {a0 : Act} {listed : Array Bool} {a : Act} {w : World} (h : Inv ph ds C a0 listed a w) (hl : ∀ i ∈ ph, listed.getD i false = true)
    (hinj : ∀ i ∈ ph, ∀ j ∈ ph, ds i = ds j → i = j) (hnodup : ph.Nodup) (hb : ∀ i ∈ ph, ds i < a0.tmps.size) :
    ∃ f : Nat → Value, a = puts a0 (ph.map fun i => (ds i, f i)) ∧ ∀ i ∈ ph, C i (f i) w := by
  refine ⟨fun i => a.tmps.getD (ds i) undef, ?_, fun i hi => ?_⟩
  · have he : a.tmps = (puts a0 (ph.map fun i => (ds i, a.tmps.getD (ds i) undef))).tmps := by
      apply Array.ext_getElem?
      intro k
      by_cases hk : ∃ i ∈ ph, ds i = k
      · obtain ⟨i, hi, rfl⟩ := hk
        rw [puts_on ds (fun i => a.tmps.getD (ds i) undef) ph a0 hinj hnodup hb i hi]
        obtain ⟨v, h1, _⟩ := h.on i hi (hl i hi)
        rw [h1]
        simp [Array.getD_eq_getD_getElem?, h1]
      · have hk' : ∀ i ∈ ph, ds i ≠ k := fun i hi e => hk ⟨i, hi, e⟩
        rw [puts_off ds _ ph k a0 hk', h.off k hk']
    have hd := h.defers
    have hd2 := puts_defers (ph.map fun i => (ds i, a.tmps.getD (ds i) undef)) a0
    cases a with
    | mk t d =>
      generalize hp : puts a0 (ph.map fun i => (ds i, Array.getD t (ds i) undef)) = b at *
      cases b with
      | mk t' d' =>
        simp only at he hd hd2 hp ⊢
        rw [he, hd, hd2]
  · obtain ⟨v, h1, h2⟩ := h.on i hi (hl i hi)
    have : a.tmps.getD (ds i) undef = v := by simp [Array.getD_eq_getD_getElem?, h1]
    show C i (a.tmps.getD (ds i) undef) w
    rw [this]
    exact h2

def growOk (l : List Oper) (ph : List Nat) (ds : Nat → Nat) (n : Nat) (m : Sch) : Bool :=
  Region.noSelect l.toArray && backOk l && slotOk l ph ds n && decide ph.Nodup && ph.all (fun i => decide (i < l.length)) && decide ((ph.map ds).Nodup) &&
    outerOk (masks .any l []) l.toArray ph (Array.replicate l.length false) && treeOk l.toArray m (setAll ph (Array.replicate l.length false)) && decide (ph.length + m.depth ≤ l.length)

theorem inj_of_nodup (ds : Nat → Nat) : ∀ (l : List Nat), (l.map ds).Nodup → ∀ i ∈ l, ∀ j ∈ l, ds i = ds j → i = j := by
  intro l
  induction l with
  | nil => intro _ i hi; cases hi
  | cons x l ih =>
    intro h i hi j hj e
    rw [List.map_cons, List.nodup_cons] at h
    rcases List.mem_cons.1 hi with e1 | e1
    · rcases List.mem_cons.1 hj with e2 | e2
      · rw [e1, e2]
      · exact absurd (by rw [← e1, e]; exact List.mem_map_of_mem e2) h.1
    · rcases List.mem_cons.1 hj with e2 | e2
      · exact absurd (by rw [← e2, ← e]; exact List.mem_map_of_mem e1) h.1
      · exact ih h.2 i e1 j e2 e

/-- A region whose first operations (ph, in whatever order) make new memory or read; then the tree m. ds: the slot that each writes. C: what each claims of its value. -/
theorem wp_region_grow {id : Nat} {a : Act} {w : World} {l : List Oper} (ph : List Nat) (ds : Nat → Nat) (C : Nat → Value → World → Prop) (m : Sch) (S : World → Prop) (hm : P.follows .mixedOrders = true) (hB : growOk l ph ds a.tmps.size m = true)
    (hQ : ∀ c a d v w, Q (.panic c) (a.put d v) w → Q (.panic c) a w) (hS : S w.drew)
    (hC : ∀ i ∈ ph, ∀ v w w', C i v w → Below w.heap.size w w' → C i v w')
    (hstep : ∀ i ∈ ph, StepAt P l.toArray Q S ph ds C a i)
    (hend : ∀ (f : Nat → Value) (w : World), S w → (∀ i ∈ ph, C i (f i) w) → wpTree P l.toArray S Q m (puts a (ph.map fun i => (ds i, f i))) w) : (Code.region id l.toArray true).wp P Q a w := by
  unfold growOk at hB
  simp only [Bool.and_eq_true, decide_eq_true_eq, List.all_eq_true] at hB
  obtain ⟨⟨⟨⟨⟨⟨⟨⟨h1, h2⟩, h3⟩, h4⟩, h5⟩, h6⟩, h7⟩, h8⟩, h9⟩ := hB
  have hinj := inj_of_nodup ds ph h6
  have hM := masks_sound (md := .any) (ops := l.toArray) l [] (by simp) (by simp)
  have hout := outer_of hM h7
  have hbnd : ∀ i ∈ ph, ds i < a.tmps.size := fun i hi => by
    unfold slotOk at h3
    rw [List.all_eq_true] at h3
    have := h3 i hi
    cases hq : l[i]? with
    | none => simp [hq] at this
    | some o => simp only [hq, Bool.and_eq_true, decide_eq_true_eq] at this; exact this.2
  refine wp_region_held (S := S) hm ?_
  refine grow_sound (l := l) (ph := ph) (ds := ds) (C := C) (a0 := a) (m := m) (listed0 := Array.replicate l.length false) h1 hQ h2 h3 hinj h5 h4 hC hstep (by simp) (fun j hj hp i hi => ?_) h8 (fun a' w' hS' hI => ?_)
    ph.length _ _ a _ ?_ (by simpa using h9) (fun j oj _ hl => by rw [getD_replicate_false] at hl; cases hl) (by simp) (fun _ _ => rfl) hS ⟨rfl, rfl, fun _ _ => rfl, fun i _ hl => by rw [getD_replicate_false] at hl; cases hl⟩
  · have hjl : j < l.length := by
      rcases Nat.lt_or_ge j l.length with h | h
      · exact h
      · simp [Array.getD, Nat.not_lt.2 h] at hj
    exact hout j l[j] (by simp [hjl]) hj hp i hi
  · obtain ⟨f, rfl, hf⟩ := puts_of hI (fun i hi => by
      have hlt := h5 i hi
      have := setAll_at ph (Array.replicate l.length false) i (fun i hi => by simpa using h5 i hi)
      rw [if_pos hi] at this
      simp [Array.getD_eq_getD_getElem?, this]) hinj h4 hbnd
    exact hend f w' hS' hf
  · have : ph.filter (fun i => !(Array.replicate l.length false).getD i false) = ph := by
      apply List.filter_eq_self.2
      intro i _
      rw [getD_replicate_false]
      rfl
    show (ph.filter (fun i => !(Array.replicate l.toArray.size false).getD i false)).length = ph.length
    rw [show l.toArray.size = l.length from rfl, this]
end
end Go.Proofs.YtfngomlknhappaaDoor.Grow
