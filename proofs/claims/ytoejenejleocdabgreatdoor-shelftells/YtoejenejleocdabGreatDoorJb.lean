import Derived.Test.YtoejenejleocdabGreatDoorJa
import Derived.Deep.AppendLies
import Derived.Deep.RegionHeld3
import Derived.OneCell
import Derived.Laws.OwnMore
import Derived.StillTail
import Derived.OrdersHeld
import Derived.WalkKit
import Derived.Lib.Hide
/- append of one element onto a row of the call's own, in a region that draws its order; rows of the call's own side by side. No program is named here. -/
namespace Go.Proofs.YtoejenejleocdabGreatDoor
open Go.RowKit

/-- a row of the call's own as a row -/
theorem Row.of_owns {w : World} {base : Nat} {e : TypeId} {A : Option Addr} {n c : Nat} {f : Nat → Value} (h : w.ownsRow base e 1 (.slice A n c) n ((List.range n).map f)) : Row w w.heap.size A n f := by
  intro hn
  obtain ⟨g, cap, hv, _, hlt⟩ := h.form hn
  injection hv with hA _ _
  subst hA
  refine ⟨g, 0, rfl, hlt, fun i hi => ?_⟩
  have hc := h.cells (g := g) rfl i (f i) (by simp [hi])
  rw [Nat.zero_add]
  by_cases h0 : i = 0
  · subst h0; simpa [Addr.add] using hc
  · simpa [Addr.add, h0] using hc

/-- rows whose elements are of unlike types lie in unlike blocks -/
theorem own_ne {w : World} {base base' : Nat} {e e' : TypeId} {v v' : Value} {n n' : Nat} {xs xs' : List Value} (h : w.ownsRow base e 1 v n xs) (h' : w.ownsRow base' e' 1 v' n' xs') (hne : e ≠ e') :
    v.ownBlock = none ∨ v.ownBlock ≠ v'.ownBlock := by
  rcases h.2 with ⟨rfl, _⟩ | ⟨g, cap, cur, rfl, _, hg, _⟩
  · exact .inl rfl
  · right
    rcases h'.2 with ⟨rfl, _⟩ | ⟨g', cap', cur', rfl, _, hg', _⟩
    · simp [Value.ownBlock]
    · simp only [Value.ownBlock, ne_eq, Option.some.injEq]
      intro e1
      subst e1
      rw [hg] at hg'
      injection hg' with h1
      injection h1 with _ h2
      exact hne h2
theorem own_base {w : World} {base base' : Nat} {e : TypeId} {v : Value} {n : Nat} {xs : List Value} (h : w.ownsRow base e 1 v n xs) (hb : base' ≤ base) : w.ownsRow base' e 1 v n xs := by
  refine ⟨h.1, ?_⟩
  rcases h.2 with h2 | ⟨g, cap, cur, hv, hg, r⟩
  · exact .inl h2
  · exact .inr ⟨g, cap, cur, hv, by omega, r⟩
/-- a block below the row's base is none of the row's -/
theorem own_above {w : World} {base : Nat} {e : TypeId} {v : Value} {n : Nat} {xs : List Value} (h : w.ownsRow base e 1 v n xs) {k : Nat} (hk : k < base) : some k ≠ v.ownBlock := by
  intro he
  have := (h.lt k he.symm).1
  omega

/-- the cell of a block of one cell that has just been made; the same with one more block made behind it, or ahead of it -/
theorem new1 (w : World) (u : Value) (t : TypeId) : (w.alloc (.cells #[u] t)).cell? ⟨w.heap.size, 0, none⟩ = some u := by
  rw [World.cell?_alloc_at _ _ _ _ (by simp)]; rfl
variable {P : Program}

end Go.Proofs.YtoejenejleocdabGreatDoor

/- Words for memory: rows of numbers; rows of the call's own that grow by rows. No program is named here. -/
namespace Go.Proofs.YtoejenejleocdabGreatDoor
open Go.RowKit

/-- numbers in a row -/
def IRow (w : World) (B : Nat) (A : Option Addr) (l : List Int) : Prop := Row w B A l.length (fun i => .int .i64 (l.getD i 0))

theorem IRow.below {w w' : World} {B : Nat} {A : Option Addr} {l : List Int} (h : IRow w B A l) (hb : Below B w w') : IRow w' B A l := Row.below h hb
theorem IRow.more {w : World} {B B' : Nat} {A : Option Addr} {l : List Int} (h : IRow w B A l) (hB : B ≤ B') : IRow w B' A l := Row.more h hB
theorem IRow.on {w w' : World} {A : Option Addr} {l : List Int} (h : IRow w w.heap.size A l) (hb : Below w.heap.size w w') : IRow w' w'.heap.size A l := (h.below hb).more hb.size

theorem map_range_getD {α β : Type} (l : List α) (d : α) (g : α → β) : l.map g = (List.range l.length).map fun i => g (l.getD i d) := by
  apply List.ext_getElem
  · simp
  · intro i h1 h2
    simp only [List.length_map] at h1
    simp [h1]
/-- a row of the call's own, its cells told by a list -/
theorem own_row {α : Type} {w : World} {base : Nat} {e : TypeId} {A : Option Addr} {n c : Nat} {l : List α} (d : α) {g : α → Value} (h : w.ownsRow base e 1 (.slice A n c) n (l.map g)) : n = l.length ∧ Row w w.heap.size A n (fun i => g (l.getD i d)) := by
  have hn : n = l.length := by have := h.1; simp at this; omega
  subst hn
  rw [map_range_getD l d g] at h
  exact ⟨rfl, Row.of_owns h⟩
theorem own_slice {w : World} {base : Nat} {e : TypeId} {v : Value} {n : Nat} {xs : List Value} (h : w.ownsRow base e 1 v n xs) : ∃ A c, v = .slice A n c ∧ n ≤ c := by
  rcases h.2 with ⟨rfl, rfl⟩ | ⟨g, cap, cur, rfl, _, _, hc, _⟩
  · exact ⟨_, _, rfl, Nat.le_refl _⟩
  · exact ⟨_, _, rfl, hc⟩
/-- such a row, and another world in which all blocks but new ones are as they were -/
theorem own_below {w w' : World} {base : Nat} {e : TypeId} {v : Value} {n : Nat} {xs : List Value} (h : w.ownsRow base e 1 v n xs) (hb : Below w.heap.size w w') : w'.ownsRow base e 1 v n xs := by
  refine ⟨h.1, ?_⟩
  rcases h.2 with h2 | ⟨g, cap, cur, hv, h1, hg, r⟩
  · exact .inl h2
  · refine .inr ⟨g, cap, cur, hv, h1, ?_, r⟩
    have hlt : g < w.heap.size := by
      rcases Nat.lt_or_ge g w.heap.size with h | h
      · exact h
      · rw [Array.getElem?_eq_none h] at hg; cases hg
    rw [hb.block g hlt, hg]

section
variable {P : Program}

theorem run_app_zero (w : World) (base : Nat) (t ty e : TypeId) (i : TypeInfo) (ht : P.underlying t = some (.slice e)) (hi : P.info? e = some i)
    (v : Value) (n : Nat) (xs : List Value) (hown : w.ownsRow base e 1 v n xs) (A : Option Addr) (c : Nat) : (Builtin.append_ #[t, t] ty #[v, .slice A 0 c]).run P w = .ok v w := by
  rcases hown.2 with ⟨rfl, rfl⟩ | ⟨g, cap, cur, rfl, _, _, hnc, _⟩
  · simp [Builtin.append_, run_underlying ht, sizeOf, typeInfo, hi, Builtin.lenOf, Builtin.firstCells]
    cases A <;> simp [loadCells, loadCellsFrom]
  · simp [Builtin.append_, run_underlying ht, sizeOf, typeInfo, hi, Builtin.lenOf, Builtin.firstCells, hnc, storeCells]
    cases A <;> simp [loadCells, loadCellsFrom, storeCells]

/-- append(own, x...), x a row of whatever length -/
theorem wpList_app_row (w : World) {ops : Array Oper} {rest : List Oper} {o : Oper} {a : Act} {Q : Exit → Act → World → Prop} (hgd : o.guard = none) (s x : Operand) (t : TypeId)
    (ho : o.op = .call { callee := .builtin .append, args := #[s, x], argTypes := #[t, t] })
    (base : Nat) (e : TypeId) (z : Value) (bytes : Nat) (ht : P.underlying t = some (.slice e)) (hinfo : (P.info? e).map (fun i => (i.zero, i.size, i.bytes)) = some (some z, 1, bytes)) (hz1 : z.cells.size = 1)
    (v : Value) (n : Nat) (xs : List Value) (hs : a.eval s = v) (hown : w.ownsRow base e 1 v n xs)
    (A : Option Addr) (m c : Nat) (f : Nat → Value) (hx : a.eval x = .slice A m c) (hr : Row w w.heap.size A m f) (h1 : ∀ i, i < m → (f i).oneCell' = true)
    (h63 : n + m ≤ maxLen) (hbytes : (n + m) * bytes ≤ 140737488355328) (hbase : base ≤ w.heap.size)
    (h : ∀ v' w', w'.ownsRow base e 1 v' (n + m) (xs ++ (List.range m).map f) → w.grownBy w' v.ownBlock → (v'.ownBlock = v.ownBlock ∨ v'.ownBlock = some w.heap.size) → wpList P ops Q rest (a.put o.dst v') w') : wpList P ops Q (o :: rest) a w := by
  obtain ⟨i, hi, hzz⟩ := Option.map_eq_some_iff.1 hinfo
  simp only [Prod.mk.injEq] at hzz
  obtain ⟨hz, hsz, hb⟩ := hzz
  by_cases hm : m = 0
  · subst hm
    refine wpList_plain hgd fun K hK => ?_
    have hrun := run_app_zero (P := P) w base t o.type e i ht hi v n xs hown A c
    unfold Oper.wp execOp
    simp only [ho, resolve, invoke, builtin, Sem.run_bind, Sem.run_pure, Result.andThen_ok, List.map_toArray, List.map_cons, List.map_nil, hs, hx, hrun]
    exact hK _ _ (h v w (by simpa using hown) (World.grownBy.refl w _) (.inl rfl))
  · obtain ⟨b, off, rfl, hbl, hc⟩ := hr (by omega)
    refine wpList_append_lies w hgd s x t ho base e i z 1 bytes ht hi hz hsz hb hz1 (by omega) v n xs hs hown ⟨b, off, none⟩ m c ((List.range m).map f) hx (by simp) ?_ ?_ (by omega) h63 hbytes hbase w.heap.size rfl ?_
    · intro j u hu
      by_cases hj : j < m
      · simp [hj] at hu
        subst hu
        have e1 : (⟨b, off, none⟩ : Addr).add j = ⟨b, off + j, none⟩ := by
          by_cases h0 : j = 0
          · subst h0; simp [Addr.add]
          · simp [Addr.add, h0]
        rw [e1]; exact hc j hj
      · simp [hj] at hu
    · intro u hu
      simp at hu
      obtain ⟨j, hj, rfl⟩ := hu
      exact h1 j hj
    · intro g cap w' hown' hgrow hg _
      exact h _ w' hown' hgrow (hg.elim (fun hg => .inl hg.symm) (fun hg => .inr (congrArg some hg)))

/-- append(own, u) -/
theorem wpList_app1 (w : World) {ops : Array Oper} {rest : List Oper} {o : Oper} {a : Act} {Q : Exit → Act → World → Prop} (hgd : o.guard = none) (s x : Operand) (t : TypeId)
    (ho : o.op = .call { callee := .builtin .append, args := #[s, x], argTypes := #[t, t] })
    (base : Nat) (e : TypeId) (z : Value) (bytes : Nat) (ht : P.underlying t = some (.slice e)) (hinfo : (P.info? e).map (fun i => (i.zero, i.size, i.bytes)) = some (some z, 1, bytes)) (hz1 : z.cells.size = 1)
    (v : Value) (n : Nat) (xs : List Value) (hs : a.eval s = v) (b : Nat) (u : Value) (hx : a.eval x = .slice (some ⟨b, 0, none⟩) 1 1)
    (hown : w.ownsRow base e 1 v n xs) (hc : w.cell? ⟨b, 0, none⟩ = some u) (hbl : b < w.heap.size) (h1 : u.oneCell' = true) (h63 : n + 1 ≤ maxLen) (hbytes : (n + 1) * bytes ≤ 140737488355328) (hbase : base ≤ w.heap.size)
    (h : ∀ v' w', w'.ownsRow base e 1 v' (n + 1) (xs ++ [u]) → w.grownBy w' v.ownBlock → (v'.ownBlock = v.ownBlock ∨ v'.ownBlock = some w.heap.size) → wpList P ops Q rest (a.put o.dst v') w') : wpList P ops Q (o :: rest) a w :=
  wpList_app_row w hgd s x t ho base e z bytes ht hinfo hz1 v n xs hs hown _ 1 1 (fun _ => u) hx (fun _ => ⟨b, 0, rfl, hbl, fun i hi => by rw [show 0 + i = 0 from by omega]; exact hc⟩) (fun _ _ => h1) h63 hbytes hbase (fun v' w' h2 h3 h4 => h v' w' (by simpa using h2) h3 h4)
end

theorem getD_snoc_lt {α : Type} (l : List α) (x d : α) (i : Nat) (h : i < l.length) : (l ++ [x]).getD i d = l.getD i d := by
  simp [List.getD_eq_getElem?_getD, List.getElem?_append_left h]
theorem getD_snoc_eq {α : Type} (l : List α) (x d : α) : (l ++ [x]).getD l.length d = x := by simp

end Go.Proofs.YtoejenejleocdabGreatDoor

/- Words for memory: a call that hands back numbers; a list of numbers in the making. No program is named here, but the type of numbers. -/
namespace Go.Proofs.YtoejenejleocdabGreatDoor
open Go.RowKit

/-- a call that hands back numbers in a row, and leaves what was -/
def Ints (w : World) (L : List Int) (e : Ending) (w' : World) : Prop := ∃ A c, e = .returned (.slice A L.length c) ∧ IRow w' w'.heap.size A L ∧ Below w.heap.size w w'

theorem row_of_rowIs {w : World} {b : Nat} {t : TypeId} {n : Nat} {f : Nat → Value} (h : w.rowIs b t n f) : Row w w.heap.size (some ⟨b, 0, none⟩) n f := Row.of_rowIs h h.lt

/-- a list in the making: a row of the call's own -/
structure OL (w : World) (L : List Int) (v : Value) (W : World) : Prop where
  own : W.ownsRow w.heap.size 3 1 v L.length (L.map (Value.int .i64))
  old : Below w.heap.size w W
theorem OL.nil (w W : World) (h : Below w.heap.size w W) : OL w [] (.slice none 0 0) W := ⟨World.ownsRow_nil _ _ _ _, h⟩
theorem OL.on {w : World} {L : List Int} {v : Value} {W W' : World} (h : OL w L v W) (hb : Below W.heap.size W W') : OL w L v W' := ⟨own_below h.own hb, h.old.trans (hb.mono h.old.size)⟩
theorem OL.app {w : World} {L : List Int} {v v' : Value} {W W' : World} (h : OL w L v W) (x : Int) (h2 : W'.ownsRow w.heap.size 3 1 v' (L.length + 1) (L.map (Value.int .i64) ++ [.int .i64 x])) (hg : W.grownBy W' v.ownBlock) : OL w (L ++ [x]) v' W' :=
  ⟨by simpa using h2, h.old.grown hg h.old.size (fun g hg => (h.own.lt g hg).1)⟩
theorem OL.ints {w : World} {L : List Int} {v : Value} {W : World} (h : OL w L v W) : Ints w L (.returned v) W := by
  obtain ⟨A, c, rfl, _⟩ := own_slice h.own
  obtain ⟨_, hr⟩ := own_row (0 : Int) h.own
  exact ⟨A, c, rfl, hr, h.old⟩

end Go.Proofs.YtoejenejleocdabGreatDoor

/- Words for memory: rows of numbers from 0 on, rows of such rows; a row of rows in the making. No program is named here. -/
namespace Go.Proofs.YtoejenejleocdabGreatDoor
open Go.RowKit

/-- numbers from 0 on in a row; groups of them in a row of rows -/
def NRow (w : World) (B : Nat) (A : Option Addr) (g : List Nat) : Prop := Row w B A g.length (fun i => .int .i64 ((g.getD i 0 : Nat) : Int))
def gv (gs : List (List Nat)) (a : Nat → Option Addr) (c : Nat → Nat) (i : Nat) : Value := .slice (a i) (gs.getD i []).length (c i)
def GRow (w : World) (B : Nat) (A : Option Addr) (gs : List (List Nat)) : Prop :=
  ∃ (a : Nat → Option Addr) (c : Nat → Nat), Row w B A gs.length (gv gs a c) ∧ ∀ i, i < gs.length → NRow w B (a i) (gs.getD i [])

theorem NRow.below {w w' : World} {B : Nat} {A : Option Addr} {g : List Nat} (h : NRow w B A g) (hb : Below B w w') : NRow w' B A g := Row.below h hb
theorem NRow.more {w : World} {B B' : Nat} {A : Option Addr} {g : List Nat} (h : NRow w B A g) (hB : B ≤ B') : NRow w B' A g := Row.more h hB
theorem NRow.on {w w' : World} {A : Option Addr} {g : List Nat} (h : NRow w w.heap.size A g) (hb : Below w.heap.size w w') : NRow w' w'.heap.size A g := (h.below hb).more hb.size
theorem GRow.below {w w' : World} {B : Nat} {A : Option Addr} {gs : List (List Nat)} (h : GRow w B A gs) (hb : Below B w w') : GRow w' B A gs := by
  obtain ⟨a, c, h1, h2⟩ := h
  exact ⟨a, c, h1.below hb, fun i hi => (h2 i hi).below hb⟩
theorem GRow.more {w : World} {B B' : Nat} {A : Option Addr} {gs : List (List Nat)} (h : GRow w B A gs) (hB : B ≤ B') : GRow w B' A gs := by
  obtain ⟨a, c, h1, h2⟩ := h
  exact ⟨a, c, h1.more hB, fun i hi => (h2 i hi).more hB⟩
theorem GRow.on {w w' : World} {A : Option Addr} {gs : List (List Nat)} (h : GRow w w.heap.size A gs) (hb : Below w.heap.size w w') : GRow w' w'.heap.size A gs := (h.below hb).more hb.size
/-- the same, in blocks of which P holds -/
def GRowL (w : World) (P : Nat → Prop) (B : Nat) (A : Option Addr) (gs : List (List Nat)) : Prop :=
  ∃ (a : Nat → Option Addr) (c : Nat → Nat), Row w B A gs.length (gv gs a c) ∧ (∀ x, A = some x → 0 < gs.length → P x.block) ∧
    ∀ i, i < gs.length → NRow w B (a i) (gs.getD i []) ∧ ∀ x, a i = some x → 0 < (gs.getD i []).length → P x.block
theorem GRowL.row {w : World} {P : Nat → Prop} {B : Nat} {A : Option Addr} {gs : List (List Nat)} (h : GRowL w P B A gs) : GRow w B A gs := by
  obtain ⟨a, c, h1, _, h2⟩ := h
  exact ⟨a, c, h1, fun i hi => (h2 i hi).1⟩
theorem GRowL.on {w w' : World} {P : Nat → Prop} {A : Option Addr} {gs : List (List Nat)} (h : GRowL w P w.heap.size A gs) (hb : Below w.heap.size w w') : GRowL w' P w'.heap.size A gs := by
  obtain ⟨a, c, h1, h3, h2⟩ := h
  exact ⟨a, c, (h1.below hb).more hb.size, h3, fun i hi => ⟨(h2 i hi).1.on hb, (h2 i hi).2⟩⟩
/-- another world in which the cells of such blocks are as they were -/
theorem GRowL.keep {w w' : World} {P : Nat → Prop} {A : Option Addr} {gs : List (List Nat)} (h : GRowL w P w.heap.size A gs) (hsz : w.heap.size ≤ w'.heap.size) (hc : ∀ b o, b < w.heap.size → P b → w'.cell? ⟨b, o, none⟩ = w.cell? ⟨b, o, none⟩) : GRowL w' P w'.heap.size A gs := by
  have k : ∀ {B : Option Addr} {n : Nat} {f : Nat → Value}, (∀ x, B = some x → 0 < n → P x.block) → Row w w.heap.size B n f → Row w' w'.heap.size B n f := fun hlo hrow hn => by
    obtain ⟨b, o, e, hb, hcc⟩ := hrow hn
    exact ⟨b, o, e, Nat.lt_of_lt_of_le hb hsz, fun i hi => (hc b (o + i) hb (hlo _ e hn)).trans (hcc i hi)⟩
  obtain ⟨a, c, h1, h3, h2⟩ := h
  exact ⟨a, c, k h3 h1, h3, fun i hi => ⟨k (h2 i hi).2 (h2 i hi).1, (h2 i hi).2⟩⟩
theorem GRowL.grown {w w' : World} {P : Nat → Prop} {A : Option Addr} {gs : List (List Nat)} {r : Option Nat} (h : GRowL w P w.heap.size A gs) (hg : w.grownBy w' r) (hr : ∀ g, r = some g → ¬ P g) : GRowL w' P w'.heap.size A gs :=
  h.keep hg.size (fun b o hb hP => hg.cell_far ⟨b, o, none⟩ hb (fun he => hr b he.symm hP))
theorem GRowL.set {w : World} {P : Nat → Prop} {A : Option Addr} {gs : List (List Nat)} (h : GRowL w P w.heap.size A gs) (p : Addr) (u : Value) (hp : ¬ P p.block) : GRowL (w.setCell p u) P (w.setCell p u).heap.size A gs :=
  h.keep (by simp) (fun b o _ hP => World.cell?_setCell_far w p ⟨b, o, none⟩ u (fun e => hp (by rw [e]; exact hP)))
/-- numbers that come in as ints -/
theorem NRow.of_ints {w : World} {B : Nat} {A : Option Addr} {g : List Nat} (h : IRow w B A (g.map fun (n : Nat) => (n : Int))) : NRow w B A g := by
  unfold IRow at h
  rw [List.length_map] at h
  exact h.congr (fun i hi => by simp [hi])
theorem NRow.ints {w : World} {B : Nat} {A : Option Addr} {g : List Nat} (h : NRow w B A g) : IRow w B A (g.map fun (n : Nat) => (n : Int)) := by
  unfold IRow
  rw [List.length_map]
  exact Row.congr h (fun i hi => by simp [hi])

/-- groups in the making: a row of the call's own (its cells: xs), whose cells lead to rows of numbers in other blocks -/
structure GOwn (base : Nat) (e : TypeId) (v : Value) (gs : List (List Nat)) (xs : List Value) (w : World) : Prop where
  own : w.ownsRow base e 1 v gs.length xs
  some_ : ∃ (a : Nat → Option Addr) (c : Nat → Nat), xs = (List.range gs.length).map (gv gs a c) ∧
    ∀ i, i < gs.length → (gs.getD i []).length = 0 ∨ ∃ g o, a i = some ⟨g, o, none⟩ ∧ base ≤ g ∧ g < w.heap.size ∧ some g ≠ v.ownBlock ∧ ∀ j, j < (gs.getD i []).length → w.cell? ⟨g, o + j, none⟩ = some (.int .i64 (((gs.getD i []).getD j 0 : Nat) : Int))

theorem GOwn.nil (base : Nat) (e : TypeId) (w : World) : GOwn base e (.slice none 0 0) [] [] w :=
  ⟨World.ownsRow_nil _ _ _ _, fun _ => none, fun _ => 0, rfl, fun i hi => absurd hi (by simp)⟩
theorem GOwn.row {base : Nat} {e : TypeId} {A : Option Addr} {n c : Nat} {gs : List (List Nat)} {xs : List Value} {w : World} (h : GOwn base e (.slice A n c) gs xs w) (hn : n = gs.length) : GRowL w (fun b => base ≤ b) w.heap.size A gs := by
  obtain ⟨h1, a, c', rfl, h2⟩ := h
  subst hn
  refine ⟨a, c', Row.of_owns h1, fun x hx hp => ?_, fun i hi => ⟨fun hp => ?_, fun x hx hp => ?_⟩⟩
  · subst hx; exact (h1.lt x.block rfl).1
  · rcases h2 i hi with h0 | ⟨g, o, ha, _, hg, _, hc⟩
    · omega
    · exact ⟨g, o, ha, hg, hc⟩
  · rcases h2 i hi with h0 | ⟨g, o, ha, hbg, _⟩
    · omega
    · rw [ha] at hx; injection hx with hx; subst hx; exact hbg
theorem GOwn.below {base : Nat} {e : TypeId} {v : Value} {gs : List (List Nat)} {xs : List Value} {w w' : World} (h : GOwn base e v gs xs w) (hb : Below w.heap.size w w') : GOwn base e v gs xs w' := by
  obtain ⟨h1, a, c, rfl, h2⟩ := h
  refine ⟨own_below h1 hb, a, c, rfl, fun i hi => ?_⟩
  rcases h2 i hi with h0 | ⟨g, o, ha, hbg, hg, hne, hc⟩
  · exact .inl h0
  · exact .inr ⟨g, o, ha, hbg, Nat.lt_of_lt_of_le hg hb.size, hne, fun j hj => (hb.cell (p := ⟨g, o + j, none⟩) hg).trans (hc j hj)⟩
/-- one group more -/
theorem GOwn.app {base : Nat} {e : TypeId} {v v' : Value} {gs : List (List Nat)} {xs : List Value} {w w' : World} (h : GOwn base e v gs xs w) (L : List Nat) (A : Option Addr) (cap : Nat)
    (hA : L.length = 0 ∨ ∃ g o, A = some ⟨g, o, none⟩ ∧ base ≤ g ∧ g < w.heap.size ∧ some g ≠ v.ownBlock ∧ ∀ j, j < L.length → w.cell? ⟨g, o + j, none⟩ = some (.int .i64 ((L.getD j 0 : Nat) : Int)))
    (hg : w.grownBy w' v.ownBlock) (hv : v'.ownBlock = v.ownBlock ∨ v'.ownBlock = some w.heap.size)
    (hnew : w'.ownsRow base e 1 v' (gs.length + 1) (xs ++ [.slice A L.length cap])) : GOwn base e v' (gs ++ [L]) (xs ++ [.slice A L.length cap]) w' := by
  obtain ⟨h1, a, c, rfl, h2⟩ := h
  have keep : ∀ g o, g < w.heap.size → some g ≠ v.ownBlock → w'.cell? ⟨g, o, none⟩ = w.cell? ⟨g, o, none⟩ := fun g o hlt hne => hg.cell_far ⟨g, o, none⟩ hlt hne
  have hne' : ∀ g, g < w.heap.size → some g ≠ v.ownBlock → some g ≠ v'.ownBlock := fun g hlt hne he => by
    rcases hv with hv | hv
    · exact hne (by rw [he, hv])
    · rw [hv] at he; injection he with he; omega
  refine ⟨by simpa using hnew, fun i => if i < gs.length then a i else A, fun i => if i < gs.length then c i else cap, ?_, ?_⟩
  · rw [List.length_append, List.length_singleton, List.range_succ, List.map_append]
    have e1 : (List.range gs.length).map (gv (gs ++ [L]) (fun i => if i < gs.length then a i else A) (fun i => if i < gs.length then c i else cap)) = (List.range gs.length).map (gv gs a c) := by
      apply List.map_congr_left
      intro i hi
      have hi' := List.mem_range.1 hi
      simp only [gv, if_pos hi', getD_snoc_lt gs L [] i hi']
    rw [e1]
    simp [gv]
  · intro i hi
    simp only [List.length_append, List.length_singleton] at hi
    by_cases hlt : i < gs.length
    · simp only [getD_snoc_lt gs L [] i hlt, if_pos hlt]
      rcases h2 i hlt with h0 | ⟨g, o, ha, hbg, hgl, hne, hc⟩
      · exact .inl h0
      · exact .inr ⟨g, o, ha, hbg, Nat.lt_of_lt_of_le hgl hg.size, hne' g hgl hne, fun j hj => (keep g _ hgl hne).trans (hc j hj)⟩
    · obtain rfl : i = gs.length := by omega
      simp only [getD_snoc_eq gs L [], if_neg hlt]
      rcases hA with h0 | ⟨g, o, ha, hbg, hgl, hne, hc⟩
      · exact .inl h0
      · exact .inr ⟨g, o, ha, hbg, Nat.lt_of_lt_of_le hgl hg.size, hne' g hgl hne, fun j hj => (keep g _ hgl hne).trans (hc j hj)⟩

end Go.Proofs.YtoejenejleocdabGreatDoor

/- A region that draws its order, whose last operations are forced behind all others: what yields its value while a condition S holds is taken first, then come the calls (in their forced order, S shown behind each), then the last operations, of which nothing is asked: they may write what was read. No program is named here. -/
namespace Go.Proofs.YtoejenejleocdabGreatDoor
open Go Go.RowKit

section
variable {P : Program} {ops : Array Oper} {Q : Exit → Act → World → Prop} {md : Region.Mode} {S : World → Prop}

/-- whatever order is picked from here on; behind each of the first n operations S holds -/
def wpAnyK (P : Program) (md : Region.Mode) (ops : Array Oper) (Q : Exit → Act → World → Prop) (S : World → Prop) (n : Nat) : Nat → Array Bool → Act → World → Prop
  | 0, listed, a, w => Region.ready md ops listed = [] ∧ Q .normal a w
  | fuel + 1, listed, a, w =>
    (Region.ready md ops listed = [] → Q .normal a w) ∧
    ∀ i ∈ Region.ready md ops listed, wpOp P ops Q i (fun a' w' => (i < n → S w') ∧ wpAnyK P md ops Q S n fuel (listed.setIfInBounds i true) a' w') a w

theorem wpAny_of_K {n : Nat} : ∀ (fuel : Nat) (listed : Array Bool) (a : Act) (w : World), wpAnyK P md ops Q S n fuel listed a w → wpAny P md ops Q fuel listed a w
  | 0, _, _, _, h => h
  | fuel + 1, _, _, _, h => ⟨h.1, fun i hi => wpOp_mono (fun a' w' h' => wpAny_of_K fuel _ a' w' h'.2) (h.2 i hi)⟩

theorem wpAnyK_first {n i : Nat} {oi : Oper} {v : Value} (hi : ops[i]? = some oi) (hsel : ∀ (j : Nat) (o : Oper) cs b, ops[j]? = some o → o.op ≠ .select cs b)
    (hQ : ∀ c a w, Q (.panic c) (a.put oi.dst v) w → Q (.panic c) a w) (hs : Region.sinkB md ops n = true) (hc : Region.chainB md ops n = true) (hn : n < ops.size) (hin : i < n) :
    ∀ (fuel : Nat) (listed : Array Bool) (a : Act) (w : World), HeadInv md ops n listed →
      (∀ j oj, ops[j]? = some oj → j ≠ i → listed.getD j true = false → (∀ e ∈ oj.after, Region.binds md e = true → e.on ≠ i) → oi.apart ops oj = true) →
      i ∈ Region.ready md ops listed → YieldsIf P ops S oi v a → S w →
      wpAnyK P md ops Q S n fuel (listed.setIfInBounds i true) (a.put oi.dst v) w → wpAnyK P md ops Q S n (fuel + 1) listed a w := by
  intro fuel
  induction fuel with
  | zero =>
    intro listed a w _ _ hr hy hS H
    refine ⟨fun h => (by rw [h] at hr; cases hr), fun j hj => ?_⟩
    by_cases hji : j = i
    · subst hji; exact hy.wpOp hi hS ⟨fun _ => hS, H⟩
    · have := ready_mono hj hji
      rw [H.1] at this
      cases this
  | succ fuel ih =>
    intro listed a w inv hfree hr hy hS H
    refine ⟨fun h => (by rw [h] at hr; cases hr), fun j hj => ?_⟩
    by_cases hji : j = i
    · subst hji; exact hy.wpOp hi hS ⟨fun _ => hS, H⟩
    · have hjn : j < n := by
        rcases Nat.lt_or_ge j n with h | h
        · exact h
        · exact absurd hj (tail_waits hs hc hn inv (n - i) i rfl hin (mem_ready.1 hr).1 j h)
      have h1 := H.2 j (ready_mono hj hji)
      obtain ⟨hjun, oj, hoj, hall⟩ := mem_ready.1 hj
      have hnot : ∀ e ∈ oj.after, Region.binds md e = true → e.on ≠ i := fun e he hb heq => by
        have h1 := hall e he hb
        have h0 := (mem_ready.1 hr).1
        rw [heq] at h1
        rw [getD_both h0] at h1
        cases h1
      have h2 := wpOp_putIf hoj (hfree j oj hoj hji hjun hnot) (fun cs b => hsel i oi cs b hi) (fun cs b => hsel j oj cs b hoj) hQ hy h1
      have hfree' : ∀ k ok, ops[k]? = some ok → k ≠ i → (listed.setIfInBounds j true).getD k true = false →
          (∀ e ∈ ok.after, Region.binds md e = true → e.on ≠ i) → oi.apart ops ok = true := fun k ok hk hki hun hno => by
        refine hfree k ok hk hki ?_ hno
        by_cases hjk : j = k
        · subst hjk; exact hjun
        · rw [getD_set_ne true hjk] at hun; exact hun
      refine wpOp_mono (fun a' w' h3 => ⟨h3.2.1, ih (listed.setIfInBounds j true) a' w' (inv.set hj hjn) hfree' (ready_mono hr (Ne.symm hji)) h3.1 (h3.2.1 hjn) ?_⟩) h2
      rw [Array.setIfInBounds_comm _ _ hji]
      exact h3.2.2

/-- the last operations, one behind the other -/
theorem wpAnyK_of_seq {n : Nat} : ∀ (l : List Oper) (k : Nat) (listed : Array Bool) (a : Act) (w : World), n ≤ k → (∀ j, l[j]? = ops[k + j]?) →
    Region.seqB md ops l.length k listed = true → wpList P ops Q l a w → wpAnyK P md ops Q S n l.length listed a w
  | [], _, _, _, _, _, _, hB, h => ⟨by simpa [Region.seqB] using hB, h⟩
  | o :: l, k, listed, a, w, hk, hl, hB, h => by
    have h0 : ops[k]? = some o := by simpa using (hl 0).symm
    simp only [List.length_cons, Region.seqB, Bool.and_eq_true, decide_eq_true_eq] at hB
    refine ⟨fun h1 => (by rw [hB.1] at h1; cases h1), fun i hi => ?_⟩
    rw [hB.1] at hi
    have hik : i = k := by simpa using hi
    subst hik
    have hw : wpOp P ops Q i (wpList P ops Q l) a w := by unfold wpOp; simp only [h0]; exact h
    exact wpOp_mono (fun a' w' h' => ⟨fun hlt => absurd hlt (by omega), wpAnyK_of_seq l (i + 1) _ a' w' (by omega) (fun j => by have := hl (j + 1); simpa [Nat.add_assoc, Nat.add_comm 1 j] using this) hB.2 h'⟩) hw

/-- the calls, one behind the other, S shown behind each; then L -/
def wpCalls (P : Program) (ops : Array Oper) (Q : Exit → Act → World → Prop) (S : World → Prop) (L : Act → World → Prop) : List Nat → Act → World → Prop
  | [], a, w => L a w
  | j :: js, a, w => match ops[j]? with
    | none => False
    | some o => o.guard = none ∧ o.wp P a w (fun a' w' => S w' ∧ wpCalls P ops Q S L js a' w') Q
/-- what is taken first; then the calls -/
def wpTakes (P : Program) (ops : Array Oper) (Q : Exit → Act → World → Prop) (S : World → Prop) (L : Act → World → Prop) (js : List Nat) : List Nat → Act → World → Prop
  | [], a, w => wpCalls P ops Q S L js a w
  | i :: is, a, w => match ops[i]? with
    | none => False
    | some o => ∃ v, YieldsIf P ops S o v a ∧ (∀ c a w, Q (.panic c) (a.put o.dst v) w → Q (.panic c) a w) ∧ wpTakes P ops Q S L js is (a.put o.dst v) w

def callsB (md : Region.Mode) (ops : Array Oper) (n : Nat) : List Nat → Array Bool → Bool
  | [], listed => Region.seqB md ops (ops.size - n) n listed
  | j :: js, listed => decide (j < n) && decide (Region.ready md ops listed = [j]) && callsB md ops n js (listed.setIfInBounds j true)
def takesB (md : Region.Mode) (ops : Array Oper) (n : Nat) (js : List Nat) : List Nat → Array Bool → Bool
  | [], listed => callsB md ops n js listed
  | i :: is, listed => decide (i < n) && (Region.ready md ops listed).contains i && Region.free md ops listed i && takesB md ops n js is (listed.setIfInBounds i true)
def tkB (md : Region.Mode) (ops : Array Oper) (n : Nat) (is js : List Nat) : Bool :=
  Region.noSelect ops && decide (n < ops.size) && Region.sinkB md ops n && Region.chainB md ops n && decide (is.length + js.length = n) && takesB md ops n js is (Array.replicate ops.size false)

theorem wanted_plain {o : Oper} {y : Nat → Option Bool} (h : o.guard = none) : Region.wanted o y = true := by unfold Region.wanted; rw [h]

theorem wpAnyK_calls {n : Nat} {tl : List Oper} (htl : ∀ j, tl[j]? = ops[n + j]?) (hg : tl.length = ops.size - n) : ∀ (js : List Nat) (listed : Array Bool) (a : Act) (w : World), callsB md ops n js listed = true →
    wpCalls P ops Q S (wpList P ops Q tl) js a w → wpAnyK P md ops Q S n (js.length + tl.length) listed a w
  | [], listed, a, w, hB, h => by
    rw [List.length_nil, Nat.zero_add]
    exact wpAnyK_of_seq tl n listed a w (Nat.le_refl _) htl (by rw [hg]; exact hB) h
  | j :: js, listed, a, w, hB, h => by
    simp only [callsB, Bool.and_eq_true, decide_eq_true_eq] at hB
    obtain ⟨⟨hjn, hr⟩, hB'⟩ := hB
    rw [List.length_cons, show js.length + 1 + tl.length = (js.length + tl.length) + 1 by omega]
    refine ⟨fun h0 => (by rw [hr] at h0; cases h0), fun i hi => ?_⟩
    rw [hr] at hi
    have hij : i = j := by simpa using hi
    subst hij
    simp only [wpCalls] at h
    unfold wpOp
    cases ho : ops[i]? with
    | none => simp only [ho] at h
    | some o =>
      simp only [ho] at h
      obtain ⟨hgd, h⟩ := h
      simp only [wanted_plain hgd, if_true]
      exact .inl (Oper.wp_mono (fun a' w' ⟨h1, h2⟩ => ⟨fun _ => h1, wpAnyK_calls htl hg js _ a' w' hB' h2⟩) h)

theorem wpAnyK_takes {n : Nat} {tl : List Oper} {js : List Nat} (hsel : Region.noSelect ops = true) (hs : Region.sinkB md ops n = true) (hc : Region.chainB md ops n = true) (hn : n < ops.size)
    (htl : ∀ j, tl[j]? = ops[n + j]?) (hg : tl.length = ops.size - n) : ∀ (is : List Nat) (listed : Array Bool) (a : Act) (w : World), HeadInv md ops n listed → S w → takesB md ops n js is listed = true →
    wpTakes P ops Q S (wpList P ops Q tl) js is a w → wpAnyK P md ops Q S n (is.length + (js.length + tl.length)) listed a w
  | [], listed, a, w, _, _, hB, h => by
    rw [List.length_nil, Nat.zero_add]
    exact wpAnyK_calls htl hg js listed a w hB h
  | i :: is, listed, a, w, inv, hS, hB, h => by
    simp only [takesB, Bool.and_eq_true, decide_eq_true_eq] at hB
    obtain ⟨⟨⟨hin, hr⟩, hf⟩, hB'⟩ := hB
    have hr' : i ∈ Region.ready md ops listed := by simpa using hr
    rw [List.length_cons, show is.length + 1 + (js.length + tl.length) = (is.length + (js.length + tl.length)) + 1 by omega]
    simp only [wpTakes] at h
    cases ho : ops[i]? with
    | none => simp only [ho] at h
    | some o =>
      simp only [ho] at h
      obtain ⟨v, hy, hQ, h⟩ := h
      exact wpAnyK_first ho (Region.noSelect_spec hsel) hQ hs hc hn hin _ listed a w inv (Region.free_spec ho hf) hr' hy hS (wpAnyK_takes hsel hs hc hn htl hg is _ _ w (inv.set hr' hin) hS hB' h)

/-- THE LAW -/
theorem wp_region_takes {id : Nat} {a : Act} {w : World} {l : List Oper} (n : Nat) (is js : List Nat) (S : World → Prop) (hm : P.follows .mixedOrders = true) (hB : tkB .any l.toArray n is js = true) (hS : S w.drew)
    (h : wpTakes P l.toArray Q S (wpList P l.toArray Q (l.drop n)) js is a w.drew) : (Code.region id l.toArray true).wp P Q a w := by
  simp only [tkB, Bool.and_eq_true, decide_eq_true_eq] at hB
  obtain ⟨⟨⟨⟨⟨hsel, hn⟩, hs⟩, hc⟩, hlen⟩, ht⟩ := hB
  have inv0 : HeadInv .any l.toArray n (Array.replicate l.toArray.size false) :=
    ⟨by simp, fun j oj _ hl => (by rw [getD_replicate_false] at hl; cases hl), fun t _ ht => getD_in (by simpa using ht) (getD_replicate_false _ _)⟩
  have H := wpAnyK_takes (md := .any) (tl := l.drop n) hsel hs hc hn (fun j => by simp [List.getElem?_drop]) (by simp) is _ a w.drew inv0 hS ht h
  refine wp_region_any hm ?_
  have e : is.length + (js.length + (l.drop n).length) = l.toArray.size := by
    have : n < l.length := by simpa using hn
    simp; omega
  rw [e] at H
  exact wpAny_of_K _ _ _ _ H

theorem at0 {o : Oper} {l : List Oper} : (o :: l).toArray[0]? = some o := rfl
theorem at1 {a0 o : Oper} {l : List Oper} : (a0 :: o :: l).toArray[1]? = some o := rfl
theorem at2 {a0 a1 o : Oper} {l : List Oper} : (a0 :: a1 :: o :: l).toArray[2]? = some o := rfl
theorem at3 {a0 a1 a2 o : Oper} {l : List Oper} : (a0 :: a1 :: a2 :: o :: l).toArray[3]? = some o := rfl
theorem at4 {a0 a1 a2 a3 o : Oper} {l : List Oper} : (a0 :: a1 :: a2 :: a3 :: o :: l).toArray[4]? = some o := rfl
theorem at5 {a0 a1 a2 a3 a4 o : Oper} {l : List Oper} : (a0 :: a1 :: a2 :: a3 :: a4 :: o :: l).toArray[5]? = some o := rfl
theorem at6 {a0 a1 a2 a3 a4 a5 o : Oper} {l : List Oper} : (a0 :: a1 :: a2 :: a3 :: a4 :: a5 :: o :: l).toArray[6]? = some o := rfl
theorem at7 {a0 a1 a2 a3 a4 a5 a6 o : Oper} {l : List Oper} : (a0 :: a1 :: a2 :: a3 :: a4 :: a5 :: a6 :: o :: l).toArray[7]? = some o := rfl
theorem at8 {a0 a1 a2 a3 a4 a5 a6 a7 o : Oper} {l : List Oper} : (a0 :: a1 :: a2 :: a3 :: a4 :: a5 :: a6 :: a7 :: o :: l).toArray[8]? = some o := rfl
theorem at9 {a0 a1 a2 a3 a4 a5 a6 a7 a8 o : Oper} {l : List Oper} : (a0 :: a1 :: a2 :: a3 :: a4 :: a5 :: a6 :: a7 :: a8 :: o :: l).toArray[9]? = some o := rfl
theorem at10 {a0 a1 a2 a3 a4 a5 a6 a7 a8 a9 o : Oper} {l : List Oper} : (a0 :: a1 :: a2 :: a3 :: a4 :: a5 :: a6 :: a7 :: a8 :: a9 :: o :: l).toArray[10]? = some o := rfl
theorem at11 {a0 a1 a2 a3 a4 a5 a6 a7 a8 a9 a10 o : Oper} {l : List Oper} : (a0 :: a1 :: a2 :: a3 :: a4 :: a5 :: a6 :: a7 :: a8 :: a9 :: a10 :: o :: l).toArray[11]? = some o := rfl
theorem at12 {a0 a1 a2 a3 a4 a5 a6 a7 a8 a9 a10 a11 o : Oper} {l : List Oper} : (a0 :: a1 :: a2 :: a3 :: a4 :: a5 :: a6 :: a7 :: a8 :: a9 :: a10 :: a11 :: o :: l).toArray[12]? = some o := rfl
theorem at13 {a0 a1 a2 a3 a4 a5 a6 a7 a8 a9 a10 a11 a12 o : Oper} {l : List Oper} : (a0 :: a1 :: a2 :: a3 :: a4 :: a5 :: a6 :: a7 :: a8 :: a9 :: a10 :: a11 :: a12 :: o :: l).toArray[13]? = some o := rfl
theorem at14 {a0 a1 a2 a3 a4 a5 a6 a7 a8 a9 a10 a11 a12 a13 o : Oper} {l : List Oper} : (a0 :: a1 :: a2 :: a3 :: a4 :: a5 :: a6 :: a7 :: a8 :: a9 :: a10 :: a11 :: a12 :: a13 :: o :: l).toArray[14]? = some o := rfl
theorem at15 {a0 a1 a2 a3 a4 a5 a6 a7 a8 a9 a10 a11 a12 a13 a14 o : Oper} {l : List Oper} : (a0 :: a1 :: a2 :: a3 :: a4 :: a5 :: a6 :: a7 :: a8 :: a9 :: a10 :: a11 :: a12 :: a13 :: a14 :: o :: l).toArray[15]? = some o := rfl
theorem at16 {a0 a1 a2 a3 a4 a5 a6 a7 a8 a9 a10 a11 a12 a13 a14 a15 o : Oper} {l : List Oper} : (a0 :: a1 :: a2 :: a3 :: a4 :: a5 :: a6 :: a7 :: a8 :: a9 :: a10 :: a11 :: a12 :: a13 :: a14 :: a15 :: o :: l).toArray[16]? = some o := rfl
theorem at17 {a0 a1 a2 a3 a4 a5 a6 a7 a8 a9 a10 a11 a12 a13 a14 a15 a16 o : Oper} {l : List Oper} : (a0 :: a1 :: a2 :: a3 :: a4 :: a5 :: a6 :: a7 :: a8 :: a9 :: a10 :: a11 :: a12 :: a13 :: a14 :: a15 :: a16 :: o :: l).toArray[17]? = some o := rfl
theorem at18 {a0 a1 a2 a3 a4 a5 a6 a7 a8 a9 a10 a11 a12 a13 a14 a15 a16 a17 o : Oper} {l : List Oper} : (a0 :: a1 :: a2 :: a3 :: a4 :: a5 :: a6 :: a7 :: a8 :: a9 :: a10 :: a11 :: a12 :: a13 :: a14 :: a15 :: a16 :: a17 :: o :: l).toArray[18]? = some o := rfl
theorem at19 {a0 a1 a2 a3 a4 a5 a6 a7 a8 a9 a10 a11 a12 a13 a14 a15 a16 a17 a18 o : Oper} {l : List Oper} : (a0 :: a1 :: a2 :: a3 :: a4 :: a5 :: a6 :: a7 :: a8 :: a9 :: a10 :: a11 :: a12 :: a13 :: a14 :: a15 :: a16 :: a17 :: a18 :: o :: l).toArray[19]? = some o := rfl
theorem wpTakes_cons {L : Act → World → Prop} {js is : List Nat} {i : Nat} {a : Act} {w : World} (o : Oper) (ho : ops[i]? = some o) (hg : o.guard = none) {v : Value} (hy : ∀ w, S w → (execOp a.eval o).run P w = .ok (.value v) w)
    (hQ : ∀ c a w, Q (.panic c) (a.put o.dst v) w → Q (.panic c) a w) (h : wpTakes P ops Q S L js is (a.put o.dst v) w) : wpTakes P ops Q S L js (i :: is) a w := by
  simp only [wpTakes, ho]
  exact ⟨v, .inl ⟨wanted_plain hg, hy⟩, hQ, h⟩
theorem wpTakes_nil {L : Act → World → Prop} {js : List Nat} {a : Act} {w : World} (h : wpCalls P ops Q S L js a w) : wpTakes P ops Q S L js [] a w := h
theorem wpCalls_cons {L : Act → World → Prop} {js : List Nat} {j : Nat} {a : Act} {w : World} (o : Oper) (ho : ops[j]? = some o) (hg : o.guard = none)
    (h : ∀ K : Act → World → Prop, Hid (∀ a' w', S w' → wpCalls P ops Q S L js a' w' → K a' w') → o.wp P a w K Q) : wpCalls P ops Q S L (j :: js) a w := by
  simp only [wpCalls, ho]
  exact ⟨hg, h _ (fun a' w' h1 h2 => ⟨h1, h2⟩)⟩
theorem wpCalls_nil {L : Act → World → Prop} {a : Act} {w : World} (h : L a w) : wpCalls P ops Q S L [] a w := h

end
end Go.Proofs.YtoejenejleocdabGreatDoor

/- Plain mathematics of numbers as levels of bits: groups of numbers whose first bits are the same, the levels, counts, kinds. No program is named here. -/
namespace Go.Proofs.YtoejenejleocdabGreatDoor
namespace Wv

/-- the bit s of a number -/
def bit (s n : Nat) : Bool := n / 2 ^ s % 2 == 1
/-- those numbers that are p but for their last s bits -/
def grp (s p : Nat) (l : List Nat) : List Nat := l.filter fun n => n / 2 ^ s == p
/-- the groups of the first m numbers, one behind the other -/
def lev (s m : Nat) (l : List Nat) : List Nat := (List.range m).flatMap fun p => grp s p l
/-- how many there are -/
def cnt (s p : Nat) (l : List Nat) : Nat := (grp s p l).length
/-- where a group begins -/
def st (s p : Nat) (l : List Nat) : Nat := (lev s p l).length
/-- the bits of a level: bit s, the numbers in groups by what is above it -/
def lbits (s m : Nat) (l : List Nat) : List Bool := (lev (s + 1) m l).map (bit s)
/-- the child of a group -/
def kid (p : Nat) (one : Bool) : Nat := 2 * p + one.toNat

theorem div_succ (s n : Nat) : n / 2 ^ (s + 1) = n / 2 ^ s / 2 := by rw [Nat.pow_succ, Nat.div_div_eq_div_mul]
theorem kid_bit (s n : Nat) : kid (n / 2 ^ (s + 1)) (bit s n) = n / 2 ^ s := by
  unfold kid bit; rw [div_succ]
  generalize n / 2 ^ s = m
  rcases Nat.mod_two_eq_zero_or_one m with h | h <;> simp [h] <;> omega
theorem kid_iff (s p n : Nat) (one : Bool) : (n / 2 ^ s == kid p one) = (n / 2 ^ (s + 1) == p && bit s n == one) := by
  unfold kid bit; rw [div_succ]
  generalize n / 2 ^ s = m
  cases one
  · rcases Nat.mod_two_eq_zero_or_one m with h | h <;> rw [h, Bool.eq_iff_iff] <;> simp <;> omega
  · rcases Nat.mod_two_eq_zero_or_one m with h | h <;> rw [h, Bool.eq_iff_iff] <;> simp <;> omega

theorem grp_append (s p : Nat) (a b : List Nat) : grp s p (a ++ b) = grp s p a ++ grp s p b := by unfold grp; exact List.filter_append ..
theorem cnt_append (s p : Nat) (a b : List Nat) : cnt s p (a ++ b) = cnt s p a + cnt s p b := by unfold cnt; rw [grp_append, List.length_append]
theorem grp_kid (s p : Nat) (one : Bool) (l : List Nat) : grp s (kid p one) l = (grp (s + 1) p l).filter (fun n => bit s n == one) := by
  unfold grp
  rw [List.filter_filter]
  apply List.filter_congr
  intro n _
  rw [kid_iff, Bool.and_comm]
theorem cnt_two (s p : Nat) (l : List Nat) : cnt (s + 1) p l = cnt s (kid p false) l + cnt s (kid p true) l := by
  unfold cnt
  rw [grp_kid, grp_kid]
  induction grp (s + 1) p l with
  | nil => rfl
  | cons n g ih =>
    rw [List.length_cons, ih, List.filter_cons, List.filter_cons]
    cases h : bit s n
    · rw [if_pos (by rfl), if_neg (by decide), List.length_cons]; omega
    · rw [if_neg (by decide), if_pos (by rfl), List.length_cons]; omega
theorem ones_map (s : Nat) (g : List Nat) : Bt.ones (g.map (bit s)) = (g.filter (fun n => bit s n == true)).length := by
  induction g with
  | nil => rfl
  | cons n g ih => rw [List.map_cons, Bt.ones_cons, ih]; cases h : bit s n <;> simp [h]; omega
theorem ones_grp (s p : Nat) (l : List Nat) : Bt.ones ((grp (s + 1) p l).map (bit s)) = cnt s (kid p true) l := by
  rw [ones_map]; unfold cnt; rw [grp_kid]

theorem lev_succ (s m : Nat) (l : List Nat) : lev s (m + 1) l = lev s m l ++ grp s m l := by
  unfold lev
  rw [List.range_succ, List.flatMap_append]; simp
theorem st_zero (s : Nat) (l : List Nat) : st s 0 l = 0 := rfl
theorem st_succ (s p : Nat) (l : List Nat) : st s (p + 1) l = st s p l + cnt s p l := by unfold st cnt; rw [lev_succ, List.length_append]
theorem st_kid (s p : Nat) (l : List Nat) : st s (2 * p) l = st (s + 1) p l := by
  induction p with
  | zero => rfl
  | succ p ih =>
    rw [show 2 * (p + 1) = 2 * p + 1 + 1 from by omega, st_succ, st_succ, ih, st_succ, cnt_two]
    simp only [kid, Bool.toNat_false, Bool.toNat_true, Nat.add_zero]
    omega
theorem st_kid0 (s p : Nat) (l : List Nat) : st s (kid p false) l = st (s + 1) p l := by simp [kid, st_kid]
theorem st_kid1 (s p : Nat) (l : List Nat) : st s (kid p true) l = st (s + 1) p l + cnt s (kid p false) l := by
  simp only [kid, Bool.toNat_false, Bool.toNat_true, Nat.add_zero]
  rw [st_succ, st_kid]
theorem st_kid2 (s p : Nat) (l : List Nat) : st s (kid p true + 1) l = st (s + 1) (p + 1) l := by
  simp only [kid, Bool.toNat_true]
  rw [← st_kid]; rfl
theorem st_kid01 (s p : Nat) (l : List Nat) : st s (kid p false + 1) l = st (s + 1) p l + cnt s (kid p false) l := by
  rw [st_succ, st_kid0]
theorem lev_split (s p : Nat) (l : List Nat) : ∀ m, p < m → ∃ r, lev s m l = lev s p l ++ grp s p l ++ r := by
  intro m
  induction m with
  | zero => intro h; omega
  | succ m ih =>
    intro h
    by_cases hp : p = m
    · subst hp; exact ⟨[], by rw [lev_succ, List.append_nil]⟩
    · obtain ⟨r, hr⟩ := ih (by omega)
      exact ⟨r ++ grp s m l, by rw [lev_succ, hr, List.append_assoc]⟩
theorem st_mono (s p m : Nat) (l : List Nat) (h : p < m) : st s p l + cnt s p l ≤ st s m l := by
  obtain ⟨r, hr⟩ := lev_split s p l m h
  unfold st cnt; rw [hr]; simp <;> omega
theorem cnt_take (s p i : Nat) (l : List Nat) : cnt s p (l.take i) + cnt s p (l.drop i) = cnt s p l := by
  rw [← cnt_append, List.take_append_drop]
theorem cnt_take_le (s p i : Nat) (l : List Nat) : cnt s p (l.take i) ≤ cnt s p l := by have := cnt_take s p i l; omega
theorem grp_take (s p i : Nat) (l : List Nat) : (grp s p l).take (cnt s p (l.take i)) = grp s p (l.take i) := by
  have h : grp s p l = grp s p (l.take i) ++ grp s p (l.drop i) := by rw [← grp_append, List.take_append_drop]
  rw [h]; unfold cnt; rw [List.take_left]

/-- THE COUNT: ones of a level ahead of the place that lies in a group behind its first ones -/
theorem ones_lev (s p m i : Nat) (l : List Nat) (h : p < m) :
    Bt.ones ((lbits s m l).take (st (s + 1) p l + cnt (s + 1) p (l.take i))) = Bt.ones ((lbits s m l).take (st (s + 1) p l)) + cnt s (kid p true) (l.take i) := by
  obtain ⟨r, hr⟩ := lev_split (s + 1) p l m h
  unfold lbits
  rw [← List.map_take, ← List.map_take, hr]
  have e1 : (lev (s + 1) p l ++ grp (s + 1) p l ++ r).take (st (s + 1) p l) = lev (s + 1) p l := by
    unfold st; rw [List.append_assoc, List.take_left]
  have e2 : (lev (s + 1) p l ++ grp (s + 1) p l ++ r).take (st (s + 1) p l + cnt (s + 1) p (l.take i)) = lev (s + 1) p l ++ grp (s + 1) p (l.take i) := by
    have hc := cnt_take_le (s + 1) p i l
    unfold st
    rw [List.append_assoc, List.take_length_add_append, List.take_append_of_le_length (by unfold cnt at hc ⊢; omega), grp_take]
  rw [e1, e2, List.map_append, Bt.ones_append, ones_grp]
/-- the whole -/
theorem cnt_whole (s : Nat) (l : List Nat) (h : ∀ n ∈ l, n < 2 ^ s) : cnt s 0 l = l.length := by
  unfold cnt grp
  rw [List.filter_eq_self.2]
  intro n hn
  simp [Nat.div_eq_of_lt (h n hn)]
theorem cnt_leaf (p : Nat) (l : List Nat) : cnt 0 p l = l.count p := by
  unfold cnt grp
  rw [List.count_eq_countP, List.countP_eq_length_filter]
  congr 2
  funext n; simp
/-- a level has all numbers -/
theorem st_all (s d : Nat) (l : List Nat) (h : ∀ n ∈ l, n < 2 ^ (s + d)) : st s (2 ^ d) l = l.length := by
  induction d generalizing s with
  | zero => rw [show 2 ^ 0 = 0 + 1 from rfl, st_succ, st_zero, cnt_whole s l h]; omega
  | succ d ih =>
    rw [Nat.pow_succ, Nat.mul_comm, st_kid, ih (s + 1) (by rw [show s + 1 + d = s + (d + 1) from by omega]; exact h)]
theorem lbits_len (s d : Nat) (l : List Nat) (h : ∀ n ∈ l, n < 2 ^ (s + 1 + d)) : (lbits s (2 ^ d) l).length = l.length := by
  unfold lbits; rw [List.length_map]; exact st_all (s + 1) d l h

/-- KINDS: the unlike numbers of a group of which there are more ahead of j than ahead of i -/
def ks (l : List Nat) (i j : Nat) : Nat → Nat → List Nat
  | 0, p => if cnt 0 p (l.take i) < cnt 0 p (l.take j) then [p] else []
  | s + 1, p => ks l i j s (kid p false) ++ ks l i j s (kid p true)
theorem cnt_mono (s p i j : Nat) (l : List Nat) (h : i ≤ j) : cnt s p (l.take i) ≤ cnt s p (l.take j) := by
  have e : l.take i = (l.take j).take i := by rw [List.take_take, Nat.min_eq_left h]
  rw [e]; exact cnt_take_le s p i _
theorem kids_no (l : List Nat) (i j s p : Nat) (one : Bool) (h : cnt (s + 1) p (l.take j) ≤ cnt (s + 1) p (l.take i)) : cnt s (kid p one) (l.take j) ≤ cnt s (kid p one) (l.take i) := by
  rw [cnt_two, cnt_two] at h
  rcases Nat.le_total i j with hij | hij
  · have h0 := cnt_mono s (kid p false) i j l hij
    have h1 := cnt_mono s (kid p true) i j l hij
    cases one <;> omega
  · exact cnt_mono s _ j i l hij
theorem ks_no (l : List Nat) (i j s : Nat) : ∀ p, cnt s p (l.take j) ≤ cnt s p (l.take i) → ks l i j s p = [] := by
  induction s with
  | zero => intro p h; unfold ks; rw [if_neg (by omega)]
  | succ s ih => intro p h; unfold ks; rw [ih _ (kids_no l i j s p false h), ih _ (kids_no l i j s p true h)]; rfl
def kinds (l : List Nat) (i j : Nat) (m : Nat) : List Nat := (List.range m).filter fun v => decide ((l.take i).count v < (l.take j).count v)
theorem ks_eq (l : List Nat) (i j s : Nat) : ∀ p, ks l i j s p = ((List.range (2 ^ s)).map (p * 2 ^ s + ·)).filter fun v => decide ((l.take i).count v < (l.take j).count v) := by
  induction s with
  | zero =>
    intro p
    unfold ks
    rw [cnt_leaf, cnt_leaf]
    by_cases h : (l.take i).count p < (l.take j).count p <;> simp [h]
  | succ s ih =>
    intro p
    unfold ks
    rw [ih, ih, ← List.filter_append]
    congr 1
    rw [show 2 ^ (s + 1) = 2 ^ s + 2 ^ s from by rw [Nat.pow_succ]; omega, List.range_add, List.map_append, List.map_map]
    simp only [kid, Bool.toNat_false, Bool.toNat_true, Nat.add_zero]
    congr 1
    · apply List.map_congr_left
      intro v _
      show 2 * p * 2 ^ s + v = _
      rw [Nat.mul_add, Nat.mul_assoc]; omega
    · apply List.map_congr_left
      intro v _
      show (2 * p + 1) * 2 ^ s + v = p * (2 ^ s + 2 ^ s) + (2 ^ s + v)
      rw [Nat.add_mul, Nat.mul_add, Nat.mul_assoc]; omega
theorem ks_kinds (l : List Nat) (i j d : Nat) : ks l i j d 0 = kinds l i j (2 ^ d) := by
  rw [ks_eq]; unfold kinds
  congr 1
  apply List.ext_getElem
  · simp
  · intro k h1 h2; simp

/-- groups without the empty ones; those that are shared out in two -/
def full (gs : List (List Nat)) : List (List Nat) := gs.filter fun g => !g.isEmpty
def share (s : Nat) (gs : List (List Nat)) : List (List Nat) := gs.flatMap fun g => full [g.filter (fun n => !bit s n), g.filter (bit s)]
def groups (s m : Nat) (l : List Nat) : List (List Nat) := (List.range m).map fun p => grp s p l
theorem full_append (a b : List (List Nat)) : full (a ++ b) = full a ++ full b := List.filter_append ..
theorem flatten_full (gs : List (List Nat)) : (full gs).flatten = gs.flatten := by
  induction gs with
  | nil => rfl
  | cons g gs ih =>
    rw [List.flatten_cons, ← ih]
    unfold full
    rw [List.filter_cons]
    cases g <;> simp
theorem share_nil (s : Nat) : full [([] : List Nat).filter (fun n => !bit s n), ([] : List Nat).filter (bit s)] = [] := rfl
theorem share_full (s : Nat) (gs : List (List Nat)) : share s (full gs) = share s gs := by
  induction gs with
  | nil => rfl
  | cons g gs ih =>
    have e : share s (g :: gs) = full [g.filter (fun n => !bit s n), g.filter (bit s)] ++ share s gs := rfl
    rw [e, ← ih]
    cases g with
    | nil => rw [share_nil]; rfl
    | cons n g => rfl
theorem full_share (s : Nat) (gs : List (List Nat)) : full (share s gs) = share s gs := by
  unfold full share
  rw [List.filter_eq_self]
  intro g hg
  simp only [List.mem_flatMap, full, List.mem_filter] at hg
  obtain ⟨_, _, _, h⟩ := hg
  exact h
theorem share_groups (s m : Nat) (l : List Nat) : share s (groups (s + 1) m l) = full (groups s (2 * m) l) := by
  induction m with
  | zero => rfl
  | succ m ih =>
    have e1 : groups (s + 1) (m + 1) l = groups (s + 1) m l ++ [grp (s + 1) m l] := by unfold groups; rw [List.range_succ, List.map_append]; rfl
    have e2 : groups s (2 * (m + 1)) l = groups s (2 * m) l ++ [grp s (kid m false) l, grp s (kid m true) l] := by
      unfold groups kid
      rw [show 2 * (m + 1) = 2 * m + 1 + 1 from by omega, List.range_succ, List.range_succ, List.map_append, List.map_append, List.append_assoc]; rfl
    rw [e1, e2, full_append, ← ih]
    unfold share
    rw [List.flatMap_append]
    congr 1
    rw [List.flatMap_cons, List.flatMap_nil, List.append_nil, grp_kid, grp_kid]
    congr 3
    · funext n; cases bit s n <;> rfl
    · congr 1; funext n; cases bit s n <;> rfl
theorem flatten_groups (s m : Nat) (l : List Nat) : (groups s m l).flatten = lev s m l := by unfold groups lev; rw [List.flatMap_def]
theorem groups_one (s : Nat) (l : List Nat) (h : ∀ n ∈ l, n < 2 ^ s) : groups s 1 l = [l] := by
  have : grp s 0 l = l := by
    unfold grp; rw [List.filter_eq_self]; intro n hn; simp [Nat.div_eq_of_lt (h n hn)]
  simp [groups, this]

end Wv
end Go.Proofs.YtoejenejleocdabGreatDoor

/- Plain mathematics of counts and kinds: what the statements say of them. No program is named here. -/
namespace Go.Proofs.YtoejenejleocdabGreatDoor
namespace Wv

/-- a place moved to the nearest one from 0 to n -/
def cl (n : Nat) (i : Int) : Nat := (max (min i n) 0).toNat
theorem cl_le (n : Nat) (i : Int) : cl n i ≤ n := by unfold cl; omega

theorem count_mono (l : List Nat) (v i j : Nat) (h : i ≤ j) : (l.take i).count v ≤ (l.take j).count v := by
  have := cnt_mono 0 v i j l h; rwa [cnt_leaf, cnt_leaf] at this

theorem kinds_rising (l : List Nat) (i j m : Nat) : (kinds l i j m).Pairwise (· < ·) := List.pairwise_lt_range.filter _
theorem kinds_none (l : List Nat) (i j m : Nat) (h : j ≤ i) : kinds l i j m = [] := by
  unfold kinds
  rw [List.filter_eq_nil_iff]
  intro v _ hv
  have := count_mono l v j i h
  simp at hv; omega

/-- ALL ARE COUNTED -/
def more (l : List Nat) (i j v : Nat) : Nat := (l.take j).count v - (l.take i).count v
theorem sum_one (x : Nat) : ∀ m, ((List.range m).map fun v => if x = v then 1 else 0).sum = if x < m then 1 else 0 := by
  intro m
  induction m with
  | zero => rfl
  | succ m ih =>
    rw [List.range_succ, List.map_append, List.sum_append_nat, ih]
    simp only [List.map_cons, List.map_nil, List.sum_cons, List.sum_nil, Nat.add_zero]
    by_cases h1 : x < m
    · rw [if_pos h1, if_neg (by omega), if_pos (by omega), Nat.add_zero]
    · by_cases h2 : x = m
      · rw [if_neg h1, if_pos h2, if_pos (by omega), Nat.zero_add]
      · rw [if_neg h1, if_neg h2, if_neg (by omega), Nat.zero_add]
theorem sum_filter (xs : List Nat) (f : Nat → Nat) (q : Nat → Bool) (h : ∀ v, q v = false → f v = 0) : ((xs.filter q).map f).sum = (xs.map f).sum := by
  induction xs with
  | nil => rfl
  | cons x xs ih =>
    rw [List.filter_cons]
    cases hq : q x with
    | true => rw [if_pos rfl, List.map_cons, List.map_cons, List.sum_cons, List.sum_cons, ih]
    | false => rw [if_neg (by simp), List.map_cons, List.sum_cons, ih, h x hq, Nat.zero_add]
end Wv
end Go.Proofs.YtoejenejleocdabGreatDoor

/- Words for memory: levels of bits in a row of structs. No program is named here. -/
namespace Go.Proofs.YtoejenejleocdabGreatDoor
open Go.RowKit

/-- three cells hold bits of a list -/
def LvAt (w : World) (B b o : Nat) (bs : List Bool) : Prop :=
  ∃ A1 c1 A2 c2, w.cell? ⟨b, o, none⟩ = some (.int .i64 bs.length) ∧ w.cell? ⟨b, o + 1, none⟩ = some (.slice A1 (bs.length / 64 + 1) c1) ∧ w.cell? ⟨b, o + 2, none⟩ = some (.slice A2 (bs.length / 64 + 1) c2) ∧ IsBits w B A1 A2 bs
theorem LvAt.below {w w' : World} {B b o : Nat} {bs : List Bool} (h : LvAt w B b o bs) (hb : Below B w w') (hlt : b < B) : LvAt w' B b o bs := by
  obtain ⟨A1, c1, A2, c2, h1, h2, h3, h4⟩ := h
  exact ⟨A1, c1, A2, c2, (hb.cell (p := ⟨b, o, none⟩) hlt).trans h1, (hb.cell (p := ⟨b, o + 1, none⟩) hlt).trans h2, (hb.cell (p := ⟨b, o + 2, none⟩) hlt).trans h3, h4.below hb⟩
theorem LvAt.more {w : World} {B B' b o : Nat} {bs : List Bool} (h : LvAt w B b o bs) (hB : B ≤ B') : LvAt w B' b o bs := by
  obtain ⟨A1, c1, A2, c2, h1, h2, h3, h4⟩ := h
  exact ⟨A1, c1, A2, c2, h1, h2, h3, h4.more hB⟩

/-- s levels in a row, k above them -/
def LV (w : World) (B : Nat) (A : Option Addr) (s k : Nat) (l : List Nat) : Prop :=
  0 < s → ∃ b o, A = some ⟨b, o, none⟩ ∧ b < B ∧ ∀ j, j < s → LvAt w B b (o + j * 3) (Wv.lbits (s - 1 - j) (2 ^ (k + j)) l)
theorem LV.below {w w' : World} {B : Nat} {A : Option Addr} {s k : Nat} {l : List Nat} (h : LV w B A s k l) (hb : Below B w w') : LV w' B A s k l := by
  intro hs
  obtain ⟨b, o, e, hlt, hc⟩ := h hs
  exact ⟨b, o, e, hlt, fun j hj => (hc j hj).below hb hlt⟩
theorem LV.more {w : World} {B B' : Nat} {A : Option Addr} {s k : Nat} {l : List Nat} (h : LV w B A s k l) (hB : B ≤ B') : LV w B' A s k l := by
  intro hs
  obtain ⟨b, o, e, hlt, hc⟩ := h hs
  exact ⟨b, o, e, by omega, fun j hj => (hc j hj).more hB⟩
theorem LV.on {w w' : World} {A : Option Addr} {s k : Nat} {l : List Nat} (h : LV w w.heap.size A s k l) (hb : Below w.heap.size w w') : LV w' w'.heap.size A s k l := (h.below hb).more hb.size
/-- all but the first -/
theorem LV.tail {w : World} {B b o s k : Nat} {l : List Nat} (h : LV w B (some ⟨b, o, none⟩) (s + 1) k l) : LV w B (some ⟨b, o + 3, none⟩) s (k + 1) l := by
  intro hs
  obtain ⟨b', o', e, hlt, hc⟩ := h (by omega)
  injection e with e
  injection e with e1 e2
  subst e1 e2
  refine ⟨b, o + 3, rfl, hlt, fun j hj => ?_⟩
  have := hc (j + 1) (by omega)
  rwa [show o + (j + 1) * 3 = o + 3 + j * 3 from by omega, show s + 1 - 1 - (j + 1) = s - 1 - j from by omega, show k + (j + 1) = k + 1 + j from by omega] at this

/-- the levels of a list of numbers below 2^d -/
structure Wave (w : World) (A : Option Addr) (d : Nat) (l : List Nat) : Prop where
  lv : LV w w.heap.size A d 0 l
  fit : ∀ n ∈ l, n < 2 ^ d
  d1 : 1 ≤ d
  d16 : d ≤ 16
  small : l.length ≤ 17592186044416
theorem Wave.on {w w' : World} {A : Option Addr} {d : Nat} {l : List Nat} (h : Wave w A d l) (hb : Below w.heap.size w w') : Wave w' A d l := ⟨h.lv.on hb, h.fit, h.d1, h.d16, h.small⟩
/-- level k: its three cells -/
theorem Wave.level {w : World} {A : Option Addr} {d : Nat} {l : List Nat} (h : Wave w A d l) : ∃ b o, A = some ⟨b, o, none⟩ ∧ b < w.heap.size ∧ ∀ k, k < d → LvAt w w.heap.size b (o + k * 3) (Wv.lbits (d - 1 - k) (2 ^ k) l) ∧ (Wv.lbits (d - 1 - k) (2 ^ k) l).length = l.length := by
  obtain ⟨b, o, e, hlt, hc⟩ := h.lv h.d1
  refine ⟨b, o, e, hlt, fun k hk => ⟨?_, ?_⟩⟩
  · have := hc k hk
    rwa [Nat.zero_add] at this
  · exact Wv.lbits_len _ _ _ (by rw [show d - 1 - k + 1 + k = d from by omega]; exact h.fit)

end Go.Proofs.YtoejenejleocdabGreatDoor
