import Derived.Test.YtoejenejleocdabGreatDoorJf
/- Is one end ahead of another, as the reference tells it. -/
namespace Go.Proofs.YtoejenejleocdabGreatDoor
open Go.RowKit

end Go.Proofs.YtoejenejleocdabGreatDoor

/- The ends as the reference puts them in order: one by one, each where it belongs. -/
namespace Go.Proofs.YtoejenejleocdabGreatDoor
open Go.RowKit

/-- a list with a hole at a place -/
def Hole (E : List Int) (j : Nat) (X : List Int) : Prop := X.length = E.length + 1 ∧ (∀ i, i < j → X.getD i 0 = E.getD i 0) ∧ ∀ i, j ≤ i → i < E.length → X.getD (i + 1) 0 = E.getD i 0
theorem Hole.start (E : List Int) (x : Int) : Hole E E.length (E ++ [x]) := by
  refine ⟨by simp, fun i hi => getD_snoc_lt E x 0 i hi, fun i h1 h2 => by omega⟩
theorem getD_set (X : List Int) (j i : Nat) (x : Int) (hj : j < X.length) : (X.set j x).getD i 0 = if i = j then x else X.getD i 0 := by
  simp only [List.getD_eq_getElem?_getD, List.getElem?_set]
  by_cases h : j = i
  · subst h; simp [hj]
  · rw [if_neg h, if_neg (fun e => h e.symm)]
theorem Hole.step {E : List Int} {j : Nat} {X : List Int} (h : Hole E (j + 1) X) (hj : j < E.length) : Hole E j (X.set (j + 1) (X.getD j 0)) := by
  obtain ⟨h0, h1, h2⟩ := h
  refine ⟨by simpa using h0, fun i hi => ?_, fun i hi hl => ?_⟩
  · rw [getD_set _ _ _ _ (by omega), if_neg (by omega)]; exact h1 i (by omega)
  · rw [getD_set _ _ _ _ (by omega)]
    by_cases e : i = j
    · subst e; rw [if_pos rfl]; exact h1 i (by omega)
    · rw [if_neg (by omega)]; exact h2 i (by omega) hl
/-- places as numbers -/
abbrev num (es : List Nat) : List Int := es.map fun (i : Nat) => (i : Int)
/-- the ends of the first k places, by order -/
def EndsUp (l : List Int) (k : Nat) (es : List Nat) : Prop := es.Perm (List.range k) ∧ es.Pairwise (En.elt l)
theorem EndsUp.length {l : List Int} {k : Nat} {es : List Nat} (h : EndsUp l k es) : es.length = k := by have := h.1.length_eq; simpa using this
/-- the inner loop: a row of the call's own with a hole -/
structure EI (w : World) (l : List Int) (k g cap : Nat) (es : List Nat) (j : Nat) (X : List Int) (W : World) : Prop where
  own : W.ownsRow w.heap.size 3 1 (.slice (some ⟨g, 0, none⟩) (k + 1) cap) (k + 1) (X.map (Value.int .i64))
  old : Below w.heap.size w W
  hole : Hole (num es) j X
  above : ∀ i, j ≤ i → i < k → En.elt l k (es.getD i 0)
theorem EI.cell {w : World} {l : List Int} {k g cap : Nat} {es : List Nat} {j : Nat} {X : List Int} {W : World} (h : EI w l k g cap es j X W) {i : Nat} (hi : i < k + 1) : W.cell? ⟨g, i, none⟩ = some (.int .i64 (X.getD i 0)) := by
  rw [h.own.cellAt i (by omega)]
  have : X.length = k + 1 := by have := h.own.1; simpa using this
  simp [show i < X.length by omega]
theorem EI.drewN {w : World} {l : List Int} {k g cap : Nat} {es : List Nat} {j : Nat} {X : List Int} {W : World} (h : EI w l k g cap es j X W) (q : Nat) : EI w l k g cap es j X (W.drewN q) := ⟨h.own, Below.drewN h.old q, h.hole, h.above⟩
theorem EI.step {w : World} {l : List Int} {k g cap : Nat} {es : List Nat} {j : Nat} {X : List Int} {W : World} (h : EI w l k g cap es (j + 1) X W) (hl : es.length = k) (hj : j < k) (he : En.elt l k (es.getD j 0)) :
    EI w l k g cap es j (X.set (j + 1) (X.getD j 0)) (W.setCell ⟨g, j + 1, none⟩ (.int .i64 (X.getD j 0))) := by
  obtain ⟨s1, s2⟩ := h.own.stored (j + 1) (.int .i64 (X.getD j 0))
  refine ⟨by rwa [List.map_set], h.old.grown s2 h.old.size (fun i hi => by injection hi with hi; subst hi; exact (h.own.lt _ rfl).1), h.hole.step (by simp; omega), fun i h1 h2 => ?_⟩
  by_cases e : i = j
  · rw [e]; exact he
  · exact h.above i (by omega) h2
end Go.Proofs.YtoejenejleocdabGreatDoor
