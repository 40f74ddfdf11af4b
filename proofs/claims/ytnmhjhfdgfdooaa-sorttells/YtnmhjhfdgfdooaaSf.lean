/- slices.SortFunc on a row of places, by an order that is told by keys. -/
import Derived.Test.YtnmhjhfdgfdooaaSe
import Derived.Test.YtnmhjhfdgfdooaaSh
namespace Go.Proofs.Ytnmhjhfdgfdooaa
open Go.RowKit

theorem growBy_trans {a b c : World} {r : Option Nat} (h : a.grownBy b r) (k : b.grownBy c r) : a.grownBy c r :=
  ⟨k.os.trans h.os, k.tape.trans h.tape, k.output.trans h.output, Nat.le_trans h.size k.size, fun i hi hne => (k.block i (Nat.lt_of_lt_of_le hi h.size) hne).trans (h.block i hi hne)⟩
/-- what is put into the row, and new blocks: all others are as they were -/
theorem growBy_sort {α : Type} [Inhabited α] (enc : α → Value) (w : World) (g off m : Nat) (d : Array α) (os : Array Obj) : w.grownBy (sortWorld enc w g off m d os) (some g) := by
  refine ⟨rfl, rfl, rfl, by simp [sortWorld], fun k hk hne => ?_⟩
  have hkg : ¬ g = k := fun e => hne (by rw [e])
  unfold sortWorld
  rw [Sort.heap_grow_old _ _ (by simpa using hk)]
  simp [Sort.putRow, Sort.mapBlock, Array.getElem?_modify, hkg]
theorem growBy_grow (w : World) (q : Nat) (os : Array Obj) (r : Option Nat) : w.grownBy (Sort.grow (w.drewN q) os) r := by
  refine ⟨rfl, rfl, rfl, by simp [Sort.grow, World.drewN], fun k hk _ => ?_⟩
  exact Sort.heap_grow_old (w.drewN q) os hk
theorem rowIs_growBy {w w' : World} {b g : Nat} {t : TypeId} {n : Nat} {f : Nat → Value} (h : w.rowIs b t n f) (hg : w.grownBy w' (some g)) (hne : b ≠ g) : w'.rowIs b t n f :=
  h.of_block (hg.block b h.lt (fun e => hne (by injection e)))
theorem rowIs_grow {w : World} {b : Nat} {t : TypeId} {n : Nat} {f : Nat → Value} (h : w.rowIs b t n f) (q : Nat) (os : Array Obj) : (Sort.grow (w.drewN q) os).rowIs b t n f :=
  h.of_block (Sort.heap_grow_old (w.drewN q) os h.lt)

/-- an order that is handed over: in every world in which all blocks but one (g) are as they were, it tells the order of the keys of two places -/
def Cmps (F : Nat) (cb : Array Value) (K : Nat → List Int) (n g : Nat) (w : World) : Prop :=
  ∀ W, w.grownBy W (some g) → ∀ x y : Nat, x < n → y < n → Calls Try.prog F (#[.int .i64 x, .int .i64 y] ++ cb) W fun e w' => e = .returned (.int .i64 (En.cl (K x) (K y))) ∧ ∃ q os, w' = Sort.grow (W.drewN q) os

/-- places in a row -/
abbrev places (es : List Nat) : Nat → Value := fun i => .int .i64 ((es.getD i 0 : Nat) : Int)

theorem sortFunc_any (F : Nat) (cb : Array Value) (K : Nat → List Int) (n g c : Nat) (es : List Nat) (w : World) (eg : ∀ args w, (callFunc F args).run Try.prog w = .ok (.enter F args) w)
    (hC : Cmps F cb K n g w) (hr : w.rowIs g 3 n (places es)) (hl : es.length = n) (hlt : ∀ e ∈ es, e < n) (hn : n < 1152921504606846976) :
    Calls Try.prog 51 #[.slice (some ⟨g, 0, none⟩) n c, .func (.func F) #[] cb] w fun e w' =>
      e = .returned (.tuple #[]) ∧ ∃ es' : List Nat, es'.Perm es ∧ es'.Pairwise (fun a b => En.cl (K a) (K b) ≤ 0) ∧ w'.rowIs g 3 n (places es') ∧ w.grownBy w' (some g) := by
  cases n with
  | zero =>
    have h0 := AnyF.slices_SortFunc_none (P := Try.prog) (ρ := Try.sortL_ren) { Try.sortL with } (some ⟨g, 0, none⟩) c (.func (.func F) #[] cb) w
    change Calls Try.prog 51 _ _ _ at h0
    refine h0.mono ?_
    rintro e w' ⟨rfl, rfl⟩
    have : es = [] := List.eq_nil_of_length_eq_zero hl
    subst this
    exact ⟨rfl, [], List.Perm.refl _, List.Pairwise.nil, hr, World.grownBy.refl _ _⟩
  | succ m =>
    let enc : Fin (m + 1) → Value := fun i => .int .i64 ((i.val : Nat) : Int)
    let cf : Fin (m + 1) → Fin (m + 1) → Int := fun a b => En.cl (K a.val) (K b.val)
    let d : Array (Fin (m + 1)) := (es.map (Fin.ofNat (m + 1))).toArray
    have hds : d.size = m + 1 := by simp [d, hl]
    have hdv : d.toList.map Fin.val = es := by
      simp only [d, List.map_map]
      conv => rhs; rw [← List.map_id es]
      apply List.map_congr_left
      intro a ha
      simp [Fin.ofNat, Nat.mod_eq_of_lt (hlt a ha)]
    have hO : Sort.SWO (ltOf cf) := {
      irrefl := fun x => by simp [ltOf, cf, En.cl_self]
      trans := fun x y z h1 h2 => by
        simp only [ltOf, cf, decide_eq_true_eq] at *
        exact En.cl_trans h1 h2
      ntrans := fun x y z h1 h2 => by
        simp only [ltOf, cf, decide_eq_false_iff_not, Int.not_lt] at *
        have e1 := En.cl_neg (K x.val) (K y.val)
        have e2 := En.cl_neg (K y.val) (K z.val)
        have e3 := En.cl_neg (K x.val) (K z.val)
        have := En.cl_trans_le (a := K z.val) (b := K y.val) (c := K x.val) (by omega) (by omega)
        omega }
    have hH : Sort.Holds enc w g 0 d := fun j hj => by
      rw [Nat.zero_add]
      refine ⟨?_, hr.frozen j⟩
      rw [hr.cell (show j < m + 1 by omega)]
      have hj' : j < es.length := by omega
      have hm := hlt es[j] (List.getElem_mem hj')
      simp [d, enc, places, hj', Fin.ofNat, Nat.mod_eq_of_lt hm]
    have hcmp : CmpLays1 Try.prog F cb enc cf g 0 d.size w := fun mm os dk hs x y => hC _ (growBy_sort enc w g 0 mm dk os) x.val y.val x.isLt y.isLt
    have hS := Any.slices_SortFunc Try.sortL enc (fun _ => rfl) cf hO F cb g 0 c d w eg hcmp hH hr.lt (by omega)
    change Calls Try.prog 51 _ _ _ at hS
    rw [hds] at hS
    refine hS.mono ?_
    rintro e w' ⟨rfl, d', q, os, hp, hs, rfl⟩
    have hd's : d'.size = m + 1 := hp.1.trans hds
    have hx : ∀ (a : Array (Fin (m + 1))) (k : Nat), a.size = k → (a.extract 0 k).toList = a.toList := fun a k ha => by
      rw [← ha, Array.extract_size]
    have hperm : d'.toList.Perm d.toList := by
      have := hp.2.2
      rw [hx d' _ hd's, hx d _ hds] at this
      exact this
    refine ⟨rfl, d'.toList.map Fin.val, ?_, ?_, ?_, growBy_sort enc w g 0 q d' os⟩
    · rw [← hdv]; exact hperm.map _
    · refine List.pairwise_map.2 (List.pairwise_iff_getElem.2 fun i j hi hj hij => ?_)
      have h1 := hs i j (Nat.zero_le _) hij (by simpa [hd's] using hj)
      simp only [Array.length_toList] at hi hj
      simp only [ltOf, cf, decide_eq_false_iff_not, Int.not_lt] at h1
      have e1 := En.cl_neg (K d'[i].val) (K d'[j].val)
      simp only [hi, hj, getElem!_pos] at h1
      simp only [Array.getElem_toList]
      omega
    · obtain ⟨cs, hb, hsz, hc⟩ := hr
      refine ⟨Sort.putCells enc 0 d' cs, ?_, ?_, ?_⟩
      · unfold sortWorld
        rw [Sort.heap_grow_old _ _ (by rw [Sort.size_putRow]; exact (Array.getElem?_eq_some_iff.1 hb).1)]
        simp only [Sort.putRow, Sort.mapBlock, Sort.heap_ahead, Array.getElem?_modify, if_true, hb, Option.map_some]
        rfl
      · simp [Sort.putCells, hsz]
      · intro i hi
        have hi' : i < d'.size := by omega
        simp [Sort.putCells, hi', enc, hsz, hi]

end Go.Proofs.Ytnmhjhfdgfdooaa
