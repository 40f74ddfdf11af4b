/- Words for memory: rows of numbers from 0 on, rows of such rows; a row of rows in the making. No program is named here. -/
import Derived.Test.YtgnakccbkglfpaaMo
namespace Go.Proofs.Ytgnakccbkglfpaa
open Go.RowKit

/-- numbers from 0 on in a row; groups of them in a row of rows -/
def NRow (w : World) (B : Nat) (A : Option Addr) (g : List Nat) : Prop := Row w B A g.length (fun i => .int .i64 ((g.getD i 0 : Nat) : Int))
def gv (gs : List (List Nat)) (a : Nat → Option Addr) (c : Nat → Nat) (i : Nat) : Value := .slice (a i) (gs.getD i []).length (c i)
def GRow (w : World) (B : Nat) (A : Option Addr) (gs : List (List Nat)) : Prop :=
  ∃ (a : Nat → Option Addr) (c : Nat → Nat), Row w B A gs.length (gv gs a c) ∧ ∀ i, i < gs.length → NRow w B (a i) (gs.getD i [])

theorem NRow.below {w w' : World} {B : Nat} {A : Option Addr} {g : List Nat} (h : NRow w B A g) (hb : Below B w w') : NRow w' B A g := Row.below h hb
theorem NRow.more {w : World} {B B' : Nat} {A : Option Addr} {g : List Nat} (h : NRow w B A g) (hB : B ≤ B') : NRow w B' A g := Row.more h hB
theorem NRow.on {w w' : World} {A : Option Addr} {g : List Nat} (h : NRow w w.heap.size A g) (hb : Below w.heap.size w w') : NRow w' w'.heap.size A g := (h.below hb).more hb.size
theorem GRow.below {w w' : World} {B : Nat} {A : Option Addr} {gs : List (List Nat)} (h : GRow w B A gs) (hb : Below B w w') : GRow w' B A gs := by
  obtain ⟨a, c, h1, h2⟩ := h
  exact ⟨a, c, h1.below hb, fun i hi => (h2 i hi).below hb⟩
theorem GRow.more {w : World} {B B' : Nat} {A : Option Addr} {gs : List (List Nat)} (h : GRow w B A gs) (hB : B ≤ B') : GRow w B' A gs := by
  obtain ⟨a, c, h1, h2⟩ := h
  exact ⟨a, c, h1.more hB, fun i hi => (h2 i hi).more hB⟩
theorem GRow.on {w w' : World} {A : Option Addr} {gs : List (List Nat)} (h : GRow w w.heap.size A gs) (hb : Below w.heap.size w w') : GRow w' w'.heap.size A gs := (h.below hb).more hb.size
/-- the same, in blocks of which P holds -/
def GRowL (w : World) (P : Nat → Prop) (B : Nat) (A : Option Addr) (gs : List (List Nat)) : Prop :=
  ∃ (a : Nat → Option Addr) (c : Nat → Nat), Row w B A gs.length (gv gs a c) ∧ (∀ x, A = some x → 0 < gs.length → P x.block) ∧
    ∀ i, i < gs.length → NRow w B (a i) (gs.getD i []) ∧ ∀ x, a i = some x → 0 < (gs.getD i []).length → P x.block
theorem GRowL.row {w : World} {P : Nat → Prop} {B : Nat} {A : Option Addr} {gs : List (List Nat)} (h : GRowL w P B A gs) : GRow w B A gs := by
  obtain ⟨a, c, h1, _, h2⟩ := h
  exact ⟨a, c, h1, fun i hi => (h2 i hi).1⟩
theorem GRowL.on {w w' : World} {P : Nat → Prop} {A : Option Addr} {gs : List (List Nat)} (h : GRowL w P w.heap.size A gs) (hb : Below w.heap.size w w') : GRowL w' P w'.heap.size A gs := by
  obtain ⟨a, c, h1, h3, h2⟩ := h
  exact ⟨a, c, (h1.below hb).more hb.size, h3, fun i hi => ⟨(h2 i hi).1.on hb, (h2 i hi).2⟩⟩
/-- another world in which the cells of such blocks are as they were -/
theorem GRowL.keep {w w' : World} {P : Nat → Prop} {A : Option Addr} {gs : List (List Nat)} (h : GRowL w P w.heap.size A gs) (hsz : w.heap.size ≤ w'.heap.size) (hc : ∀ b o, b < w.heap.size → P b → w'.cell? ⟨b, o, none⟩ = w.cell? ⟨b, o, none⟩) : GRowL w' P w'.heap.size A gs := by
  have k : ∀ {B : Option Addr} {n : Nat} {f : Nat → Value}, (∀ x, B = some x → 0 < n → P x.block) → Row w w.heap.size B n f → Row w' w'.heap.size B n f := fun hlo hrow hn => by
    obtain ⟨b, o, e, hb, hcc⟩ := hrow hn
    exact ⟨b, o, e, Nat.lt_of_lt_of_le hb hsz, fun i hi => (hc b (o + i) hb (hlo _ e hn)).trans (hcc i hi)⟩
  obtain ⟨a, c, h1, h3, h2⟩ := h
  exact ⟨a, c, k h3 h1, h3, fun i hi => ⟨k (h2 i hi).2 (h2 i hi).1, (h2 i hi).2⟩⟩
theorem GRowL.grown {w w' : World} {P : Nat → Prop} {A : Option Addr} {gs : List (List Nat)} {r : Option Nat} (h : GRowL w P w.heap.size A gs) (hg : w.grownBy w' r) (hr : ∀ g, r = some g → ¬ P g) : GRowL w' P w'.heap.size A gs :=
  h.keep hg.size (fun b o hb hP => hg.cell_far ⟨b, o, none⟩ hb (fun he => hr b he.symm hP))
theorem GRowL.set {w : World} {P : Nat → Prop} {A : Option Addr} {gs : List (List Nat)} (h : GRowL w P w.heap.size A gs) (p : Addr) (u : Value) (hp : ¬ P p.block) : GRowL (w.setCell p u) P (w.setCell p u).heap.size A gs :=
  h.keep (by simp) (fun b o _ hP => World.cell?_setCell_far w p ⟨b, o, none⟩ u (fun e => hp (by rw [e]; exact hP)))
/-- numbers that come in as ints -/
theorem NRow.of_ints {w : World} {B : Nat} {A : Option Addr} {g : List Nat} (h : IRow w B A (g.map fun (n : Nat) => (n : Int))) : NRow w B A g := by
  unfold IRow at h
  rw [List.length_map] at h
  exact h.congr (fun i hi => by simp [hi])
theorem NRow.ints {w : World} {B : Nat} {A : Option Addr} {g : List Nat} (h : NRow w B A g) : IRow w B A (g.map fun (n : Nat) => (n : Int)) := by
  unfold IRow
  rw [List.length_map]
  exact Row.congr h (fun i hi => by simp [hi])

/-- groups in the making: a row of the call's own (its cells: xs), whose cells lead to rows of numbers in other blocks -/
structure GOwn (base : Nat) (e : TypeId) (v : Value) (gs : List (List Nat)) (xs : List Value) (w : World) : Prop where
  own : w.ownsRow base e 1 v gs.length xs
  some_ : ∃ (a : Nat → Option Addr) (c : Nat → Nat), xs = (List.range gs.length).map (gv gs a c) ∧
    ∀ i, i < gs.length → (gs.getD i []).length = 0 ∨ ∃ g o, a i = some ⟨g, o, none⟩ ∧ base ≤ g ∧ g < w.heap.size ∧ some g ≠ v.ownBlock ∧ ∀ j, j < (gs.getD i []).length → w.cell? ⟨g, o + j, none⟩ = some (.int .i64 (((gs.getD i []).getD j 0 : Nat) : Int))

theorem GOwn.nil (base : Nat) (e : TypeId) (w : World) : GOwn base e (.slice none 0 0) [] [] w :=
  ⟨World.ownsRow_nil _ _ _ _, fun _ => none, fun _ => 0, rfl, fun i hi => absurd hi (by simp)⟩
theorem GOwn.row {base : Nat} {e : TypeId} {A : Option Addr} {n c : Nat} {gs : List (List Nat)} {xs : List Value} {w : World} (h : GOwn base e (.slice A n c) gs xs w) (hn : n = gs.length) : GRowL w (fun b => base ≤ b) w.heap.size A gs := by
  obtain ⟨h1, a, c', rfl, h2⟩ := h
  subst hn
  refine ⟨a, c', Row.of_owns h1, fun x hx hp => ?_, fun i hi => ⟨fun hp => ?_, fun x hx hp => ?_⟩⟩
  · subst hx; exact (h1.lt x.block rfl).1
  · rcases h2 i hi with h0 | ⟨g, o, ha, _, hg, _, hc⟩
    · omega
    · exact ⟨g, o, ha, hg, hc⟩
  · rcases h2 i hi with h0 | ⟨g, o, ha, hbg, _⟩
    · omega
    · rw [ha] at hx; injection hx with hx; subst hx; exact hbg
theorem GOwn.below {base : Nat} {e : TypeId} {v : Value} {gs : List (List Nat)} {xs : List Value} {w w' : World} (h : GOwn base e v gs xs w) (hb : Below w.heap.size w w') : GOwn base e v gs xs w' := by
  obtain ⟨h1, a, c, rfl, h2⟩ := h
  refine ⟨own_below h1 hb, a, c, rfl, fun i hi => ?_⟩
  rcases h2 i hi with h0 | ⟨g, o, ha, hbg, hg, hne, hc⟩
  · exact .inl h0
  · exact .inr ⟨g, o, ha, hbg, Nat.lt_of_lt_of_le hg hb.size, hne, fun j hj => (hb.cell (p := ⟨g, o + j, none⟩) hg).trans (hc j hj)⟩
/-- one group more -/
theorem GOwn.app {base : Nat} {e : TypeId} {v v' : Value} {gs : List (List Nat)} {xs : List Value} {w w' : World} (h : GOwn base e v gs xs w) (L : List Nat) (A : Option Addr) (cap : Nat)
    (hA : L.length = 0 ∨ ∃ g o, A = some ⟨g, o, none⟩ ∧ base ≤ g ∧ g < w.heap.size ∧ some g ≠ v.ownBlock ∧ ∀ j, j < L.length → w.cell? ⟨g, o + j, none⟩ = some (.int .i64 ((L.getD j 0 : Nat) : Int)))
    (hg : w.grownBy w' v.ownBlock) (hv : v'.ownBlock = v.ownBlock ∨ v'.ownBlock = some w.heap.size)
    (hnew : w'.ownsRow base e 1 v' (gs.length + 1) (xs ++ [.slice A L.length cap])) : GOwn base e v' (gs ++ [L]) (xs ++ [.slice A L.length cap]) w' := by
  obtain ⟨h1, a, c, rfl, h2⟩ := h
  have keep : ∀ g o, g < w.heap.size → some g ≠ v.ownBlock → w'.cell? ⟨g, o, none⟩ = w.cell? ⟨g, o, none⟩ := fun g o hlt hne => hg.cell_far ⟨g, o, none⟩ hlt hne
  have hne' : ∀ g, g < w.heap.size → some g ≠ v.ownBlock → some g ≠ v'.ownBlock := fun g hlt hne he => by
    rcases hv with hv | hv
    · exact hne (by rw [he, hv])
    · rw [hv] at he; injection he with he; omega
  refine ⟨by simpa using hnew, fun i => if i < gs.length then a i else A, fun i => if i < gs.length then c i else cap, ?_, ?_⟩
  · rw [List.length_append, List.length_singleton, List.range_succ, List.map_append]
    have e1 : (List.range gs.length).map (gv (gs ++ [L]) (fun i => if i < gs.length then a i else A) (fun i => if i < gs.length then c i else cap)) = (List.range gs.length).map (gv gs a c) := by
      apply List.map_congr_left
      intro i hi
      have hi' := List.mem_range.1 hi
      simp only [gv, if_pos hi', getD_snoc_lt gs L [] i hi']
    rw [e1]
    simp [gv]
  · intro i hi
    simp only [List.length_append, List.length_singleton] at hi
    by_cases hlt : i < gs.length
    · simp only [getD_snoc_lt gs L [] i hlt, if_pos hlt]
      rcases h2 i hlt with h0 | ⟨g, o, ha, hbg, hgl, hne, hc⟩
      · exact .inl h0
      · exact .inr ⟨g, o, ha, hbg, Nat.lt_of_lt_of_le hgl hg.size, hne' g hgl hne, fun j hj => (keep g _ hgl hne).trans (hc j hj)⟩
    · obtain rfl : i = gs.length := by omega
      simp only [getD_snoc_eq gs L [], if_neg hlt]
      rcases hA with h0 | ⟨g, o, ha, hbg, hgl, hne, hc⟩
      · exact .inl h0
      · exact .inr ⟨g, o, ha, hbg, Nat.lt_of_lt_of_le hgl hg.size, hne' g hgl hne, fun j hj => (keep g _ hgl hne).trans (hc j hj)⟩

end Go.Proofs.Ytgnakccbkglfpaa
