/- The ends as the reference puts them in order: one by one, each where it belongs. -/
import Derived.Test.YtnmhjhfdgfdooaaSs
namespace Go.Proofs.Ytnmhjhfdgfdooaa
open Go.RowKit

/-- a list with one more number at a place -/
def ins {α : Type} (es : List α) (j : Nat) (a : α) : List α := es.take j ++ a :: es.drop j
theorem ins_perm {α : Type} (es : List α) (j : Nat) (a : α) : (ins es j a).Perm (a :: es) := by
  unfold ins
  have := List.perm_middle (a := a) (l₁ := es.take j) (l₂ := es.drop j)
  rwa [List.take_append_drop] at this
theorem ins_sorted {R : Nat → Nat → Prop} {es : List Nat} {j a : Nat} (hs : es.Pairwise R) (h1 : ∀ i, i < j → i < es.length → R (es.getD i 0) a) (h2 : ∀ i, j ≤ i → i < es.length → R a (es.getD i 0)) : (ins es j a).Pairwise R := by
  have hx : ∀ x ∈ es.take j, R x a := fun x hx => by
    obtain ⟨i, hi, rfl⟩ := List.mem_take_iff_getElem.1 hx
    have := h1 i (by omega) (by omega)
    rwa [List.getD_eq_getElem?_getD, List.getElem?_eq_getElem (by omega)] at this
  have hy : ∀ y ∈ es.drop j, R a y := fun y hy => by
    obtain ⟨i, hi, rfl⟩ := List.mem_drop_iff_getElem.1 hy
    have := h2 (j + i) (by omega) (by omega)
    rwa [List.getD_eq_getElem?_getD, List.getElem?_eq_getElem (by omega)] at this
  unfold ins
  have hall : (es.take j ++ es.drop j).Pairwise R := by rw [List.take_append_drop]; exact hs
  obtain ⟨p1, p2, p3⟩ := List.pairwise_append.1 hall
  refine List.pairwise_append.2 ⟨p1, List.pairwise_cons.2 ⟨hy, p2⟩, fun x hx' y hy' => ?_⟩
  rcases List.mem_cons.1 hy' with rfl | hy'
  · exact hx x hx'
  · exact p3 x hx' y hy'

/-- a list with a hole at a place -/
def Hole (E : List Int) (j : Nat) (X : List Int) : Prop := X.length = E.length + 1 ∧ (∀ i, i < j → X.getD i 0 = E.getD i 0) ∧ ∀ i, j ≤ i → i < E.length → X.getD (i + 1) 0 = E.getD i 0
theorem Hole.start (E : List Int) (x : Int) : Hole E E.length (E ++ [x]) := by
  refine ⟨by simp, fun i hi => getD_snoc_lt E x 0 i hi, fun i h1 h2 => by omega⟩
theorem getD_set (X : List Int) (j i : Nat) (x : Int) (hj : j < X.length) : (X.set j x).getD i 0 = if i = j then x else X.getD i 0 := by
  simp only [List.getD_eq_getElem?_getD, List.getElem?_set]
  by_cases h : j = i
  · subst h; simp [hj]
  · rw [if_neg h, if_neg (fun e => h e.symm)]
theorem Hole.step {E : List Int} {j : Nat} {X : List Int} (h : Hole E (j + 1) X) (hj : j < E.length) : Hole E j (X.set (j + 1) (X.getD j 0)) := by
  obtain ⟨h0, h1, h2⟩ := h
  refine ⟨by simpa using h0, fun i hi => ?_, fun i hi hl => ?_⟩
  · rw [getD_set _ _ _ _ (by omega), if_neg (by omega)]; exact h1 i (by omega)
  · rw [getD_set _ _ _ _ (by omega)]
    by_cases e : i = j
    · subst e; rw [if_pos rfl]; exact h1 i (by omega)
    · rw [if_neg (by omega)]; exact h2 i (by omega) hl
theorem Hole.fill {E : List Int} {j : Nat} {X : List Int} (h : Hole E j X) (hj : j ≤ E.length) (x : Int) : X.set j x = ins E j x := by
  obtain ⟨h0, h1, h2⟩ := h
  unfold ins
  have hl : (E.take j ++ x :: E.drop j).length = E.length + 1 := by simp; omega
  apply List.ext_getElem
  · rw [List.length_set, h0, hl]
  · intro i hi hi'
    rw [List.length_set] at hi
    have e1 : (X.set j x)[i] = (X.set j x).getD i 0 := by rw [List.getD_eq_getElem?_getD, List.getElem?_eq_getElem (by rw [List.length_set]; exact hi)]; rfl
    rw [e1, getD_set _ _ _ _ (by omega)]
    by_cases a : i < j
    · rw [if_neg (by omega), h1 i a, List.getElem_append_left (by simp; omega)]
      simp [show i < E.length by omega]
    · rw [List.getElem_append_right (by simp; omega)]
      by_cases b : i = j
      · subst b; rw [if_pos rfl]; simp [hj]
      · rw [if_neg b]
        have := h2 (i - 1) (by omega) (by omega)
        rw [show i - 1 + 1 = i from by omega] at this
        rw [this]
        have e : i - (E.take j).length = (i - 1 - j) + 1 := by simp; omega
        simp only [e, List.getElem_cons_succ, List.getElem_drop]
        rw [List.getD_eq_getElem?_getD, List.getElem?_eq_getElem (by omega)]
        simp only [Option.getD_some]
        congr 1
        omega

/-- places as numbers -/
abbrev num (es : List Nat) : List Int := es.map fun (i : Nat) => (i : Int)
theorem num_get (es : List Nat) (i : Nat) : (num es).getD i 0 = ((es.getD i 0 : Nat) : Int) := by
  by_cases h : i < es.length
  · simp [h]
  · simp [h]
theorem num_ins (es : List Nat) (j a : Nat) : num (ins es j a) = ins (num es) j (a : Int) := by simp [num, ins]

/-- the ends of the first k places, by order -/
def EndsUp (l : List Int) (k : Nat) (es : List Nat) : Prop := es.Perm (List.range k) ∧ es.Pairwise (En.elt l)
theorem EndsUp.length {l : List Int} {k : Nat} {es : List Nat} (h : EndsUp l k es) : es.length = k := by have := h.1.length_eq; simpa using this
theorem EndsUp.ins {l : List Int} {k : Nat} {es : List Nat} (h : EndsUp l k es) {j : Nat} (hk : k < l.length) (hj : j ≤ k) (h1 : 0 < j → ¬ En.elt l k (es.getD (j - 1) 0)) (h2 : ∀ i, j ≤ i → i < k → En.elt l k (es.getD i 0)) : EndsUp l (k + 1) (ins es j k) := by
  have hl := h.length
  refine ⟨(ins_perm es j k).trans ?_, ins_sorted h.2 (fun i hi hie => ?_) (fun i hi hie => h2 i hi (by omega))⟩
  · rw [List.range_succ]
    exact (List.Perm.cons k h.1).trans (List.perm_append_singleton k (List.range k)).symm
  · have hlt : ∀ i, i < k → es.getD i 0 < k := fun i hi => perm_lt h.1 hi
    have hj1 := En.elt_total (l := l) (a := es.getD (j - 1) 0) (b := k) (by have := hlt (j - 1) (by omega); omega) hk (by have := hlt (j - 1) (by omega); omega)
    have hlast : En.elt l (es.getD (j - 1) 0) k := hj1.resolve_right (h1 (by omega))
    by_cases e : i = j - 1
    · rw [e]; exact hlast
    · have hp : En.elt l (es.getD i 0) (es.getD (j - 1) 0) := by
        simp only [List.getD_eq_getElem?_getD, List.getElem?_eq_getElem (show i < es.length by omega), List.getElem?_eq_getElem (show j - 1 < es.length by omega), Option.getD_some]
        exact List.pairwise_iff_getElem.1 h.2 i (j - 1) (by omega) (by omega) (by omega)
      exact En.cl_trans hp hlast

/-- the inner loop: a row of the call's own with a hole -/
structure EI (w : World) (l : List Int) (k g cap : Nat) (es : List Nat) (j : Nat) (X : List Int) (W : World) : Prop where
  own : W.ownsRow w.heap.size 3 1 (.slice (some ⟨g, 0, none⟩) (k + 1) cap) (k + 1) (X.map (Value.int .i64))
  old : Below w.heap.size w W
  hole : Hole (num es) j X
  above : ∀ i, j ≤ i → i < k → En.elt l k (es.getD i 0)
theorem EI.cell {w : World} {l : List Int} {k g cap : Nat} {es : List Nat} {j : Nat} {X : List Int} {W : World} (h : EI w l k g cap es j X W) {i : Nat} (hi : i < k + 1) : W.cell? ⟨g, i, none⟩ = some (.int .i64 (X.getD i 0)) := by
  rw [h.own.cellAt i (by omega)]
  have : X.length = k + 1 := by have := h.own.1; simpa using this
  simp [show i < X.length by omega]
theorem EI.drewN {w : World} {l : List Int} {k g cap : Nat} {es : List Nat} {j : Nat} {X : List Int} {W : World} (h : EI w l k g cap es j X W) (q : Nat) : EI w l k g cap es j X (W.drewN q) := ⟨h.own, Below.drewN h.old q, h.hole, h.above⟩
theorem EI.step {w : World} {l : List Int} {k g cap : Nat} {es : List Nat} {j : Nat} {X : List Int} {W : World} (h : EI w l k g cap es (j + 1) X W) (hl : es.length = k) (hj : j < k) (he : En.elt l k (es.getD j 0)) :
    EI w l k g cap es j (X.set (j + 1) (X.getD j 0)) (W.setCell ⟨g, j + 1, none⟩ (.int .i64 (X.getD j 0))) := by
  obtain ⟨s1, s2⟩ := h.own.stored (j + 1) (.int .i64 (X.getD j 0))
  refine ⟨by rwa [List.map_set], h.old.grown s2 h.old.size (fun i hi => by injection hi with hi; subst hi; exact (h.own.lt _ rfl).1), h.hole.step (by simp; omega), fun i h1 h2 => ?_⟩
  by_cases e : i = j
  · rw [e]; exact he
  · exact h.above i (by omega) h2
theorem EI.fill {w : World} {l : List Int} {k g cap : Nat} {es : List Nat} {j : Nat} {X : List Int} {W : World} (h : EI w l k g cap es j X W) (hl : es.length = k) (hj : j ≤ k) :
    OL w (num (ins es j k)) (.slice (some ⟨g, 0, none⟩) (k + 1) cap) (W.setCell ⟨g, j, none⟩ (.int .i64 (k : Int))) := by
  obtain ⟨s1, s2⟩ := h.own.stored j (.int .i64 (k : Int))
  have e : (X.map (Value.int .i64)).set j (.int .i64 (k : Int)) = (num (ins es j k)).map (Value.int .i64) := by
    rw [← List.map_set, h.hole.fill (by simp; omega) (k : Int), num_ins]
  rw [e] at s1
  have el : (num (ins es j k)).length = k + 1 := by simp [num, ins]; omega
  exact ⟨by rw [el]; exact s1, h.old.grown s2 h.old.size (fun i hi => by injection hi with hi; subst hi; exact (h.own.lt _ rfl).1)⟩

set_option maxHeartbeats 2000000 in
theorem endsOf_any (A : Option Addr) (c : Nat) (l : List Int) (w : World) (hr : IRow w w.heap.size A l) (hn : l.length ≤ 17592186043904) :
    Calls Try.prog 24 #[.slice A l.length c] w (Ints w (endsI l)) := by
  have HA := Lib.hid (fun (W : World) (hb : Below w.heap.size w W) a b ha hb' => refAhead_any A c l a b W (hr.on hb) (by omega) ha hb')
  have HE : Hid (∀ es, EndsUp l l.length es → num es = endsI l) := Lib.hid fun es h => by
    unfold endsI; rw [En.endsOf_eq h]
  have HF : Hid (∀ (k : Nat) (es : List Nat) (j : Nat), EndsUp l k es → k < l.length → j ≤ k → (0 < j → ¬ En.elt l k (es.getD (j - 1) 0)) → (∀ i, j ≤ i → i < k → En.elt l k (es.getD i 0)) → EndsUp l (k + 1) (ins es j k)) := Lib.hid fun k es j h a b c d => h.ins a b c d
  clear hr
  generalize hnn : l.length = n at *
  have Hnn := Lib.hid hnn
  clear hnn
  go_enter Try.func24, Try.ntmps24
  go_wp2
  go_loopw [3, 8] (fun s3 s W => ∃ (k : Nat) (es : List Nat), k ≤ n ∧ s = .int .i64 k ∧ Hid (EndsUp l k es) ∧ OL w (num es) s3 W) (fun _ s _ => n - (intOf s).toNat)
  case atStart => exact ⟨0, [], Nat.zero_le _, rfl, (⟨by simp, List.Pairwise.nil⟩ : EndsUp l 0 []), OL.nil w w (Below.refl _ _)⟩
  case round =>
    obtain ⟨k, es, hk, rfl, I, J⟩ := hrel
    have hel : es.length = k := I.out.length
    by_cases hlt : k < n
    · obtain ⟨A3, c3, rfl, _⟩ := own_slice J.own
      have hln : (num es).length = k := by simp [hel]
      have hmx : (num es).length + 1 ≤ maxLen := by unfold maxLen; omega
      have hsz := J.old.size
      have J1 := J.on ((Below.refl _ wr).alloc (Nat.le_refl _) (.cells #[.int .i64 (k : Int)] 3))
      have HJ : Hid (∀ v' W', W'.ownsRow w.heap.size 3 1 v' (k + 1) ((num es).map (Value.int .i64) ++ [.int .i64 (k : Int)]) → (wr.alloc (.cells #[.int .i64 (k : Int)] 3)).grownBy W' (Value.slice A3 k c3).ownBlock →
          ∃ g cap, v' = .slice (some ⟨g, 0, none⟩) (k + 1) cap ∧ EI w l k g cap es k (num es ++ [(k : Int)]) W') := Lib.hid fun v' W' h1 h2 => by
        have K := J1.app (k : Int) (by rw [hln]; exact h1) (by rw [hln]; exact h2)
        obtain ⟨g, cap, rfl, _, _⟩ := h1.form (by omega)
        refine ⟨g, cap, rfl, ⟨?_, K.old, ?_, fun i h1 h2 => by omega⟩⟩
        · have := K.own
          rw [List.length_append, List.length_singleton, hln] at this
          exact this
        · have := Hole.start (num es) (k : Int)
          rwa [hln] at this
      have own1 := J1.own
      rw [hln] at own1 hmx ⊢
      have hzk : (k : Int) < (n : Int) := by omega
      go_wp2_with (at_builtin; refine wpList_app1 _ rfl _ _ 25 rfl w.heap.size 3 (.int .i64 0) 8 Try.underlying25 infoInt' rfl _ k ((num es).map (Value.int .i64)) rfl wr.heap.size (.int .i64 (k : Int)) rfl own1 (new1 _ _ _) (by simp) rfl hmx (by omega) (by simp; omega) ?_; intro v' w2 h2 h3 h4; obtain ⟨g, cap, rfl, K⟩ := HJ.out v' w2 h2 h3)
      clear J1 HJ own1 J h2 h3 h4
      go_loopw [5] (fun s W => ∃ (j : Nat) (X : List Int), j ≤ k ∧ s = .int .i64 j ∧ Hid (EI w l k g cap es j X W)) (fun s _ => (intOf s).toNat)
      case atStart => exact ⟨k, _, Nat.le_refl _, rfl, Lib.hid K⟩
      case round =>
        obtain ⟨j, X, hj, rfl, M⟩ := hrel
        clear K
        have HFill : Hid (∀ q, ((0 < j → ¬ En.elt l k (es.getD (j - 1) 0)) → EndsUp l (k + 1) (ins es j k)) ∧ OL w (num (ins es j k)) (.slice (some ⟨g, 0, none⟩) (k + 1) cap) ((wr.drewN q).setCell ⟨g, j, none⟩ (.int .i64 (k : Int)))) := Lib.hid fun q =>
          ⟨fun h => HF.out k es j I.out hlt hj h M.out.above, (M.out.drewN q).fill hel hj⟩
        have cj : ∀ q, (wr.drewN q).cell? ⟨g, j, none⟩ = some (.int .i64 (X.getD j 0)) := fun q => M.out.cell (i := j) (by omega)
        have fj : ∀ q, (wr.drewN q).frozen? ⟨g, j, none⟩ = false := fun q => M.out.own.frozenAt j
        have Hcj := Lib.hid cj
        have Hfj := Lib.hid fj
        clear cj fj
        have hzj : (j : Int) < (k : Int) + 1 := by omega
        by_cases hj0 : j = 0
        · obtain ⟨F1, F2⟩ := HFill.out 0
          have F1 := Lib.hid (F1 (fun h => absurd h (by omega)))
          have c0 : wr.cell? ⟨g, j, none⟩ = some (.int .i64 (X.getD j 0)) := Hcj.out 0
          have f0 : wr.frozen? ⟨g, j, none⟩ = false := Hfj.out 0
          have F2' : OL w (num (ins es j k)) (.slice (some ⟨g, 0, none⟩) (k + 1) cap) (wr.setCell ⟨g, j, none⟩ (.int .i64 (k : Int))) := F2
          generalize X.getD j 0 = x at *
          have hz0 : ¬ (0 : Int) < (j : Int) := by omega
          clear M HFill Hcj Hfj F2 hj0
          go_wp2
          go_roundw
          case rel => exact ⟨k + 1, ins es j k, by omega, by go_num, F1, F2'⟩
          case measure => simp [intOf]; omega
        · obtain ⟨t, rfl⟩ : ∃ t, j = t + 1 := ⟨j - 1, by omega⟩
          have ct : wr.cell? ⟨g, t, none⟩ = some (.int .i64 (X.getD t 0)) := M.out.cell (i := t) (by omega)
          have hXt : X.getD t 0 = ((es.getD t 0 : Nat) : Int) := by rw [M.out.hole.2.1 t (by omega), num_get]
          have hlt2 : es.getD t 0 < k := perm_lt I.out.1 (by omega)
          have HC := Lib.hid (HA.out wr M.out.old k (es.getD t 0) (by omega) (by omega))
          have HStep := Lib.hid (fun (q : Nat) (he : En.elt l k (es.getD t 0)) => (M.out.drewN q).step hel (by omega) he)
          rw [hXt] at ct HStep
          rw [Nat.add_sub_cancel] at HFill
          clear M
          unfold En.elt at HStep HFill
          generalize En.cl (l.drop k) (l.drop (es.getD t 0)) = v at *
          generalize es.getD t 0 = p at *
          generalize X.getD (t + 1) 0 = x at *
          have hzt : (t : Int) < (k : Int) + 1 := by omega
          by_cases hv : v < 0
          · have hd : decide (v < 0) = true := by simp [hv]
            rw [hd] at HC
            go_wp2_with fail
            with_reducible refine HC.out.mono ?_
            rintro e w5 ⟨rfl, q, rfl⟩
            have S1 := Lib.hid (HStep.out q hv)
            have c1 := Hcj.out q
            have f1 := Hfj.out q
            clear HC HStep Hcj Hfj HFill
            go_wp2
            go_roundw
            case rel => exact ⟨t, _, by omega, by go_num, S1⟩
            case measure => simp [intOf]
          · have hd : decide (v < 0) = false := by simp [hv]
            rw [hd] at HC
            go_wp2_with fail
            with_reducible refine HC.out.mono ?_
            rintro e w5 ⟨rfl, q, rfl⟩
            obtain ⟨F1, F2⟩ := HFill.out q
            have F1 := Lib.hid (F1 (fun _ => hv))
            have c1 := Hcj.out q
            have f1 := Hfj.out q
            clear HC HStep Hcj Hfj HFill
            go_wp2
            go_roundw
            case rel => exact ⟨k + 1, ins es (t + 1) k, by omega, by go_num, F1, F2⟩
            case measure => simp [intOf]; omega
    · have hkn : k = n := by omega
      subst hkn
      have HO := Lib.hid J.ints
      rw [HE.out es I.out] at HO
      go_wp2
      go_ret
      exact HO.out

end Go.Proofs.Ytnmhjhfdgfdooaa
