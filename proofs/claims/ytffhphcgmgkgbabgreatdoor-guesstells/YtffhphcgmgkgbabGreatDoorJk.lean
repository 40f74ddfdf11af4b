import Derived.Test.YtffhphcgmgkgbabGreatDoorJf
/- Is one end ahead of another, as the reference tells it. -/
namespace Go.Proofs.YtffhphcgmgkgbabGreatDoor
open Go.RowKit

/-- what two ends have in common, and how they part -/
structure Parts (f : Nat → Int) (n a b L : Nat) (r : Bool) : Prop where
  a2 : a + L ≤ n
  b2 : b + L ≤ n
  same : ∀ k, k < L → f (a + k) = f (b + k)
  both : a + L < n → b + L < n → f (a + L) ≠ f (b + L) ∧ r = decide (f (a + L) < f (b + L))
  left_ : a + L < n → ¬ b + L < n → r = false
  right_ : ¬ a + L < n → r = decide (b + L < n)

theorem parts_of (l : List Int) (a b : Nat) (ha : a ≤ l.length) (hb : b ≤ l.length) : Parts (fun k => l.getD k 0) l.length a b (En.lcp (l.drop a) (l.drop b)) (decide (En.cl (l.drop a) (l.drop b) < 0)) := by
  have hle := En.lcp_le (l.drop a) (l.drop b)
  have hget := En.lcp_get (l.drop a) (l.drop b)
  have hend := En.lcp_end (l.drop a) (l.drop b)
  have hcl := En.cl_of_lcp (l.drop a) (l.drop b)
  rw [hcl]
  clear hcl
  generalize En.lcp (l.drop a) (l.drop b) = L at *
  simp only [List.length_drop] at hle hend ⊢
  have g : ∀ c j, (l.drop c).getD j 0 = l.getD (c + j) 0 := fun c j => by simp
  simp only [g] at hget hend ⊢
  refine ⟨by omega, by omega, hget, fun h1 h2 => ⟨hend (by omega) (by omega), ?_⟩, fun h1 h2 => ?_, fun h1 => ?_⟩
  · rw [if_pos (by omega), if_pos (by omega)]
    by_cases h : l.getD (a + L) 0 < l.getD (b + L) 0
    · rw [if_pos h, decide_eq_true h]; rfl
    · rw [if_neg h, decide_eq_false h]; rfl
  · rw [if_pos (by omega), if_neg (by omega)]; rfl
  · rw [if_neg (by omega)]
    by_cases h : b + L < l.length
    · rw [if_pos (by omega)]; simp [h]
    · rw [if_neg (by omega)]; simp [h]

end Go.Proofs.YtffhphcgmgkgbabGreatDoor

/- The ends as the reference puts them in order: one by one, each where it belongs. -/
namespace Go.Proofs.YtffhphcgmgkgbabGreatDoor
open Go.RowKit

/-- a list with one more number at a place -/
def ins {α : Type} (es : List α) (j : Nat) (a : α) : List α := es.take j ++ a :: es.drop j
theorem ins_perm {α : Type} (es : List α) (j : Nat) (a : α) : (ins es j a).Perm (a :: es) := by
  unfold ins
  have := List.perm_middle (a := a) (l₁ := es.take j) (l₂ := es.drop j)
  rwa [List.take_append_drop] at this
theorem ins_sorted {R : Nat → Nat → Prop} {es : List Nat} {j a : Nat} (hs : es.Pairwise R) (h1 : ∀ i, i < j → i < es.length → R (es.getD i 0) a) (h2 : ∀ i, j ≤ i → i < es.length → R a (es.getD i 0)) : (ins es j a).Pairwise R := by
  have hx : ∀ x ∈ es.take j, R x a := fun x hx => by
    obtain ⟨i, hi, rfl⟩ := List.mem_take_iff_getElem.1 hx
    have := h1 i (by omega) (by omega)
    rwa [List.getD_eq_getElem?_getD, List.getElem?_eq_getElem (by omega)] at this
  have hy : ∀ y ∈ es.drop j, R a y := fun y hy => by
    obtain ⟨i, hi, rfl⟩ := List.mem_drop_iff_getElem.1 hy
    have := h2 (j + i) (by omega) (by omega)
    rwa [List.getD_eq_getElem?_getD, List.getElem?_eq_getElem (by omega)] at this
  unfold ins
  have hall : (es.take j ++ es.drop j).Pairwise R := by rw [List.take_append_drop]; exact hs
  obtain ⟨p1, p2, p3⟩ := List.pairwise_append.1 hall
  refine List.pairwise_append.2 ⟨p1, List.pairwise_cons.2 ⟨hy, p2⟩, fun x hx' y hy' => ?_⟩
  rcases List.mem_cons.1 hy' with rfl | hy'
  · exact hx x hx'
  · exact p3 x hx' y hy'

/-- a list with a hole at a place -/
def Hole (E : List Int) (j : Nat) (X : List Int) : Prop := X.length = E.length + 1 ∧ (∀ i, i < j → X.getD i 0 = E.getD i 0) ∧ ∀ i, j ≤ i → i < E.length → X.getD (i + 1) 0 = E.getD i 0
theorem Hole.start (E : List Int) (x : Int) : Hole E E.length (E ++ [x]) := by
  refine ⟨by simp, fun i hi => getD_snoc_lt E x 0 i hi, fun i h1 h2 => by omega⟩
theorem getD_set (X : List Int) (j i : Nat) (x : Int) (hj : j < X.length) : (X.set j x).getD i 0 = if i = j then x else X.getD i 0 := by
  simp only [List.getD_eq_getElem?_getD, List.getElem?_set]
  by_cases h : j = i
  · subst h; simp [hj]
  · rw [if_neg h, if_neg (fun e => h e.symm)]
theorem Hole.step {E : List Int} {j : Nat} {X : List Int} (h : Hole E (j + 1) X) (hj : j < E.length) : Hole E j (X.set (j + 1) (X.getD j 0)) := by
  obtain ⟨h0, h1, h2⟩ := h
  refine ⟨by simpa using h0, fun i hi => ?_, fun i hi hl => ?_⟩
  · rw [getD_set _ _ _ _ (by omega), if_neg (by omega)]; exact h1 i (by omega)
  · rw [getD_set _ _ _ _ (by omega)]
    by_cases e : i = j
    · subst e; rw [if_pos rfl]; exact h1 i (by omega)
    · rw [if_neg (by omega)]; exact h2 i (by omega) hl
theorem Hole.fill {E : List Int} {j : Nat} {X : List Int} (h : Hole E j X) (hj : j ≤ E.length) (x : Int) : X.set j x = ins E j x := by
  obtain ⟨h0, h1, h2⟩ := h
  unfold ins
  have hl : (E.take j ++ x :: E.drop j).length = E.length + 1 := by simp; omega
  apply List.ext_getElem
  · rw [List.length_set, h0, hl]
  · intro i hi hi'
    rw [List.length_set] at hi
    have e1 : (X.set j x)[i] = (X.set j x).getD i 0 := by rw [List.getD_eq_getElem?_getD, List.getElem?_eq_getElem (by rw [List.length_set]; exact hi)]; rfl
    rw [e1, getD_set _ _ _ _ (by omega)]
    by_cases a : i < j
    · rw [if_neg (by omega), h1 i a, List.getElem_append_left (by simp; omega)]
      simp [show i < E.length by omega]
    · rw [List.getElem_append_right (by simp; omega)]
      by_cases b : i = j
      · subst b; rw [if_pos rfl]; simp [hj]
      · rw [if_neg b]
        have := h2 (i - 1) (by omega) (by omega)
        rw [show i - 1 + 1 = i from by omega] at this
        rw [this]
        have e : i - (E.take j).length = (i - 1 - j) + 1 := by simp; omega
        simp only [e, List.getElem_cons_succ, List.getElem_drop]
        rw [List.getD_eq_getElem?_getD, List.getElem?_eq_getElem (by omega)]
        simp only [Option.getD_some]
        congr 1
        omega

/-- places as numbers -/
abbrev num (es : List Nat) : List Int := es.map fun (i : Nat) => (i : Int)
theorem num_get (es : List Nat) (i : Nat) : (num es).getD i 0 = ((es.getD i 0 : Nat) : Int) := by
  by_cases h : i < es.length
  · simp [h]
  · simp [h]
theorem num_ins (es : List Nat) (j a : Nat) : num (ins es j a) = ins (num es) j (a : Int) := by simp [num, ins]

/-- the ends of the first k places, by order -/
def EndsUp (l : List Int) (k : Nat) (es : List Nat) : Prop := es.Perm (List.range k) ∧ es.Pairwise (En.elt l)
theorem EndsUp.length {l : List Int} {k : Nat} {es : List Nat} (h : EndsUp l k es) : es.length = k := by have := h.1.length_eq; simpa using this
theorem EndsUp.ins {l : List Int} {k : Nat} {es : List Nat} (h : EndsUp l k es) {j : Nat} (hk : k < l.length) (hj : j ≤ k) (h1 : 0 < j → ¬ En.elt l k (es.getD (j - 1) 0)) (h2 : ∀ i, j ≤ i → i < k → En.elt l k (es.getD i 0)) : EndsUp l (k + 1) (ins es j k) := by
  have hl := h.length
  refine ⟨(ins_perm es j k).trans ?_, ins_sorted h.2 (fun i hi hie => ?_) (fun i hi hie => h2 i hi (by omega))⟩
  · rw [List.range_succ]
    exact (List.Perm.cons k h.1).trans (List.perm_append_singleton k (List.range k)).symm
  · have hlt : ∀ i, i < k → es.getD i 0 < k := fun i hi => perm_lt h.1 hi
    have hj1 := En.elt_total (l := l) (a := es.getD (j - 1) 0) (b := k) (by have := hlt (j - 1) (by omega); omega) hk (by have := hlt (j - 1) (by omega); omega)
    have hlast : En.elt l (es.getD (j - 1) 0) k := hj1.resolve_right (h1 (by omega))
    by_cases e : i = j - 1
    · rw [e]; exact hlast
    · have hp : En.elt l (es.getD i 0) (es.getD (j - 1) 0) := by
        simp only [List.getD_eq_getElem?_getD, List.getElem?_eq_getElem (show i < es.length by omega), List.getElem?_eq_getElem (show j - 1 < es.length by omega), Option.getD_some]
        exact List.pairwise_iff_getElem.1 h.2 i (j - 1) (by omega) (by omega) (by omega)
      exact En.cl_trans hp hlast

/-- the inner loop: a row of the call's own with a hole -/
structure EI (w : World) (l : List Int) (k g cap : Nat) (es : List Nat) (j : Nat) (X : List Int) (W : World) : Prop where
  own : W.ownsRow w.heap.size 3 1 (.slice (some ⟨g, 0, none⟩) (k + 1) cap) (k + 1) (X.map (Value.int .i64))
  old : Below w.heap.size w W
  hole : Hole (num es) j X
  above : ∀ i, j ≤ i → i < k → En.elt l k (es.getD i 0)
theorem EI.cell {w : World} {l : List Int} {k g cap : Nat} {es : List Nat} {j : Nat} {X : List Int} {W : World} (h : EI w l k g cap es j X W) {i : Nat} (hi : i < k + 1) : W.cell? ⟨g, i, none⟩ = some (.int .i64 (X.getD i 0)) := by
  rw [h.own.cellAt i (by omega)]
  have : X.length = k + 1 := by have := h.own.1; simpa using this
  simp [show i < X.length by omega]
theorem EI.drewN {w : World} {l : List Int} {k g cap : Nat} {es : List Nat} {j : Nat} {X : List Int} {W : World} (h : EI w l k g cap es j X W) (q : Nat) : EI w l k g cap es j X (W.drewN q) := ⟨h.own, Below.drewN h.old q, h.hole, h.above⟩
theorem EI.step {w : World} {l : List Int} {k g cap : Nat} {es : List Nat} {j : Nat} {X : List Int} {W : World} (h : EI w l k g cap es (j + 1) X W) (hl : es.length = k) (hj : j < k) (he : En.elt l k (es.getD j 0)) :
    EI w l k g cap es j (X.set (j + 1) (X.getD j 0)) (W.setCell ⟨g, j + 1, none⟩ (.int .i64 (X.getD j 0))) := by
  obtain ⟨s1, s2⟩ := h.own.stored (j + 1) (.int .i64 (X.getD j 0))
  refine ⟨by rwa [List.map_set], h.old.grown s2 h.old.size (fun i hi => by injection hi with hi; subst hi; exact (h.own.lt _ rfl).1), h.hole.step (by simp; omega), fun i h1 h2 => ?_⟩
  by_cases e : i = j
  · rw [e]; exact he
  · exact h.above i (by omega) h2
theorem EI.fill {w : World} {l : List Int} {k g cap : Nat} {es : List Nat} {j : Nat} {X : List Int} {W : World} (h : EI w l k g cap es j X W) (hl : es.length = k) (hj : j ≤ k) :
    OL w (num (ins es j k)) (.slice (some ⟨g, 0, none⟩) (k + 1) cap) (W.setCell ⟨g, j, none⟩ (.int .i64 (k : Int))) := by
  obtain ⟨s1, s2⟩ := h.own.stored j (.int .i64 (k : Int))
  have e : (X.map (Value.int .i64)).set j (.int .i64 (k : Int)) = (num (ins es j k)).map (Value.int .i64) := by
    rw [← List.map_set, h.hole.fill (by simp; omega) (k : Int), num_ins]
  rw [e] at s1
  have el : (num (ins es j k)).length = k + 1 := by simp [num, ins]; omega
  exact ⟨by rw [el]; exact s1, h.old.grown s2 h.old.size (fun i hi => by injection hi with hi; subst hi; exact (h.own.lt _ rfl).1)⟩

/-- a call that hands back numbers in a row of its own -/
def OwnL (w : World) (L : List Int) (e : Ending) (w' : World) : Prop := ∃ v, e = .returned v ∧ OL w L v w'

end Go.Proofs.YtffhphcgmgkgbabGreatDoor
