/- The document's own answer for texts: ReadText, its mathematics of words, the least first. -/
import Derived.Test.YtoejenejleocdabGreatDoorVf
namespace Go.Proofs.YtoejenejleocdabGreatDoor
open Go.RowKit Tx
attribute [local irreducible] Bt.pop Bt.popF

namespace Tx
theorem leastB_app (last : Option Wd) : ∀ (a b : List (Option Wd)) (m : Wd), leastB last (a ++ b) m = leastB last b (leastB last a m)
  | [], _, _ => rfl
  | none :: a, b, m => leastB_app last a b m
  | some _ :: a, b, _ => leastB_app last a b _
theorem leastB_none (last : Option Wd) (acc : List (Option Wd)) (j : Nat) (hj : j < acc.length) (h : acc.getD j none = none) : leastB last (acc.take (j + 1)) [] = leastB last (acc.take j) [] := by
  rw [List.take_succ_eq_append_getElem hj, leastB_app]
  have e : acc[j] = none := by simpa [hj] using h
  rw [e]; rfl
theorem leastB_some (last : Option Wd) (acc : List (Option Wd)) (j : Nat) (hj : j < acc.length) (x : Wd) (h : acc.getD j none = some x) :
    leastB last (acc.take (j + 1)) [] = if (∀ y, last = some y → y < x) ∧ (leastB last (acc.take j) [] = [] ∨ x < leastB last (acc.take j) []) then x else leastB last (acc.take j) [] := by
  rw [List.take_succ_eq_append_getElem hj, leastB_app]
  have e : acc[j] = some x := by simpa [hj] using h
  rw [e]; rfl
theorem nof_num (ls : List (List Wd)) (hF : Formed ls) (t : Option Wd) (ht : t ∈ toks ls ++ [none]) : nofB (bw ls) (tokW t) = numB (findIn (bw ls)) t := by
  cases t with
  | none => rfl
  | some x =>
    have hx : x ∈ bw ls := (mem_all_toks ls x).1 ht
    have hw := (List.all_eq_true.1 (bw_form hF)) x hx
    have h10 : x ≠ [10] := fun e => by rw [e] at hw; revert hw; decide
    obtain ⟨L, hL, hxL⟩ := (mem_bw ls x).1 hx
    obtain ⟨k, _, _, hk⟩ := bw_find ls hL hxL
    show nofB (bw ls) x = _
    unfold nofB
    rw [if_neg h10, hk]
    show _ = (((findIn (bw ls) x).getD 0 + 2 : Nat) : Int)
    rw [hk]; rfl
theorem tok_word (ls : List (List Wd)) (hF : Formed ls) (x : Wd) (ht : some x ∈ toks ls ++ [none]) : x ≠ [] ∧ x ≠ [10] := by
  have hx : x ∈ bw ls := (mem_all_toks ls x).1 ht
  have hw := (List.all_eq_true.1 (bw_form hF)) x hx
  exact ⟨fun e => by rw [e] at hw; revert hw; decide, fun e => by rw [e] at hw; revert hw; decide⟩
end Tx

/-- the words so far, in a row of the call's own that a box leads to; all below the box is as it was -/
structure WrB (ws : List Wd) (k : Nat) (w1 : World) (A : Option Addr) (c : Nat) (W : World) : Prop where
  own : W.ownsRow (w1.heap.size + 1) 9 1 (.slice A k c) k ((ws.take k).map sv)
  box : W.rowIs w1.heap.size 43 2 (fun i => if i = 0 then .slice A k c else .slice none 0 0)
  old : Below w1.heap.size w1 W
  big : w1.heap.size + 1 ≤ W.heap.size
theorem WrB.start (ws : List Wd) (w1 : World) : WrB ws 0 w1 none 0 (w1.alloc (.cells #[.slice none 0 0, .slice none 0 0] 43)) :=
  ⟨World.ownsRow_nil _ _ _ _, World.rowIs_alloc w1 #[.slice none 0 0, .slice none 0 0] 43 _ (fun i hi => by
    match i, hi with
    | 0, _ => rfl
    | 1, _ => rfl), (Below.refl _ _).alloc (Nat.le_refl _) _, by simp⟩
theorem WrB.cells {ws : List Wd} {k : Nat} {w1 : World} {A : Option Addr} {c : Nat} {W : World} (h : WrB ws k w1 A c W) : W.cell? ⟨w1.heap.size, 0, none⟩ = some (.slice A k c) ∧ W.cell? ⟨w1.heap.size, 1, none⟩ = some (.slice none 0 0) :=
  ⟨h.box.cell (by omega), h.box.cell (by omega)⟩
/-- how many words there are so far -/
def wordsIn (b : Nat) (W : World) : Nat := match W.cell? ⟨b, 0, none⟩ with
  | some (.slice _ n _) => n
  | _ => 0
theorem WrB.count {ws : List Wd} {k : Nat} {w1 : World} {A : Option Addr} {c : Nat} {W : World} (h : WrB ws k w1 A c W) : wordsIn w1.heap.size W = k := by unfold wordsIn; rw [h.cells.1]

theorem WrB.on {ws : List Wd} {k : Nat} {w1 : World} {A : Option Addr} {c : Nat} {W W' : World} (h : WrB ws k w1 A c W) (hb : Below W.heap.size W W') : WrB ws k w1 A c W' :=
  ⟨own_below h.own hb, h.box.of_block (hb.block _ h.box.lt), h.old.trans (hb.mono h.old.size), Nat.le_trans h.big hb.size⟩
theorem WrB.app {ws : List Wd} {k : Nat} {w1 : World} {A : Option Addr} {c : Nat} {W W' : World} {v' : Value} (h : WrB ws k w1 A c W) (hk : k < ws.length)
    (h2 : W'.ownsRow (w1.heap.size + 1) 9 1 v' (k + 1) ((ws.take k).map sv ++ [sv (ws.getD k [])])) (hg : W.grownBy W' (Value.slice A k c).ownBlock) :
    ∃ A' c', v' = .slice A' (k + 1) c' ∧ W'.cell? ⟨w1.heap.size, 0, none⟩ = some (.slice A k c) ∧ W'.frozen? ⟨w1.heap.size, 0, none⟩ = false ∧ WrB ws (k + 1) w1 A' c' (W'.setCell ⟨w1.heap.size, 0, none⟩ v') := by
  obtain ⟨A', c', rfl, _⟩ := own_slice h2
  have hbx := h.box.of_block (hg.block w1.heap.size h.box.lt (own_above h.own (by omega)))
  refine ⟨A', c', rfl, hbx.cell (by omega), hbx.frozen _, ⟨?_, (hbx.set 0 _).congr (fun i hi => ?_), (h.old.grown hg h.old.size (fun g hg => by have := (h.own.lt g hg).1; omega)).setCell (p := ⟨w1.heap.size, 0, none⟩) (Nat.le_refl _) _, by simpa using Nat.le_trans h.big hg.size⟩⟩
  · have := ownsRow_setCell_below h2 (a := ⟨w1.heap.size, 0, none⟩) (by simp) (.slice A' (k + 1) c')
    rw [show (ws.take (k + 1)).map sv = (ws.take k).map sv ++ [sv (ws.getD k [])] by rw [List.take_succ_eq_append_getElem hk, List.map_append]; simp only [List.map_cons, List.map_nil]; congr 3; simp [hk]]
    exact this
  · by_cases h0 : i = 0
    · rw [if_pos h0, if_pos h0]
    · rw [if_neg h0, if_neg h0, if_neg h0]

/-- the book in the making: the words as they are, the text so far -/
structure BkI (V : World) (ws : List Wd) (A : Option Addr) (c : Nat) (T : List Int) (v : Value) (W : World) : Prop where
  words : W.ownsRow (V.heap.size + 1) 9 1 (.slice A ws.length c) ws.length (ws.map sv)
  text : W.ownsRow (V.heap.size + 1) 3 1 v T.length (iv T)
  box : W.rowIs V.heap.size 43 2 (fun i => if i = 0 then .slice A ws.length c else v)
  old : Below V.heap.size V W
  big : V.heap.size + 1 ≤ W.heap.size
theorem BkI.start {ws : List Wd} {V : World} {A : Option Addr} {c : Nat} {W : World} (h : WrB ws ws.length V A c W) : BkI V ws A c [] (.slice none 0 0) W :=
  ⟨by have := h.own; rwa [List.take_length] at this, World.ownsRow_nil _ _ _ _, h.box, h.old, h.big⟩
theorem BkI.on {V : World} {ws : List Wd} {A : Option Addr} {c : Nat} {T : List Int} {v : Value} {W W' : World} (h : BkI V ws A c T v W) (hb : Below W.heap.size W W') : BkI V ws A c T v W' :=
  ⟨own_below h.words hb, own_below h.text hb, h.box.of_block (hb.block _ h.box.lt), h.old.trans (hb.mono h.old.size), Nat.le_trans h.big hb.size⟩
theorem BkI.cells {V : World} {ws : List Wd} {A : Option Addr} {c : Nat} {T : List Int} {v : Value} {W : World} (h : BkI V ws A c T v W) : W.cell? ⟨V.heap.size, 0, none⟩ = some (.slice A ws.length c) ∧ W.cell? ⟨V.heap.size, 1, none⟩ = some v ∧ W.frozen? ⟨V.heap.size, 1, none⟩ = false :=
  ⟨h.box.cell (by omega), h.box.cell (by omega), h.box.frozen _⟩
theorem BkI.app {V : World} {ws : List Wd} {A : Option Addr} {c : Nat} {T : List Int} {v v' : Value} {W W' : World} (h : BkI V ws A c T v W) (x : Int)
    (h2 : W'.ownsRow (V.heap.size + 1) 3 1 v' (T.length + 1) (iv T ++ [.int .i64 x])) (hg : W.grownBy W' v.ownBlock) :
    BkI V ws A c (T ++ [x]) v' (W'.setCell ⟨V.heap.size, 1, none⟩ v') ∧ W'.cell? ⟨V.heap.size, 1, none⟩ = some v ∧ W'.frozen? ⟨V.heap.size, 1, none⟩ = false ∧ W'.cell? ⟨V.heap.size, 0, none⟩ = some (.slice A ws.length c) := by
  have hbx := h.box.of_block (hg.block V.heap.size h.box.lt (own_above h.text (by omega)))
  refine ⟨⟨ownsRow_setCell_below (h.words.kept hg (own_ne h.words h.text (by decide))) (a := ⟨V.heap.size, 1, none⟩) (by simp) _, ?_, (hbx.set 1 v').congr (fun i hi => ?_), (h.old.grown hg h.old.size (fun g hg => by have := (h.text.lt g hg).1; omega)).setCell (p := ⟨V.heap.size, 1, none⟩) (Nat.le_refl _) _, by simpa using Nat.le_trans h.big hg.size⟩, hbx.cell (by omega), hbx.frozen _, hbx.cell (by omega)⟩
  · have := ownsRow_setCell_below h2 (a := ⟨V.heap.size, 1, none⟩) (by simp) v'
    simpa [iv] using this
  · match i, hi with
    | 0, _ => rfl
    | 1, _ => rfl

end Go.Proofs.YtoejenejleocdabGreatDoor
