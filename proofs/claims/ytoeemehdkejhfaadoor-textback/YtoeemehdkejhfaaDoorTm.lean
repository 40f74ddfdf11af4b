/- Words for memory: rows of strings, of numbers, of rows; rows of the call's own that grow. No program is named here. -/
import Derived.Test.YtoeemehdkejhfaaDoorTa
import Derived.Test.YtoeemehdkejhfaaDoorAp
import Derived.Sort.Row
import Derived.Sort.Grow
import Derived.Sort.EncStr
namespace Go.Proofs.YtoeemehdkejhfaaDoor
open Go.RowKit Tx

/-- a string's value -/
abbrev sv (w : Wd) : Value := .string ⟨w.toArray⟩
/-- words in a row, numbers in a row, lines of words in a row of rows -/
def SRow (w : World) (B : Nat) (A : Option Addr) (ws : List Wd) : Prop := Row w B A ws.length (fun i => sv (ws.getD i []))
def IRow (w : World) (B : Nat) (A : Option Addr) (l : List Int) : Prop := Row w B A l.length (fun i => .int .i64 (l.getD i 0))
def lv (ls : List (List Wd)) (a : Nat → Option Addr) (c : Nat → Nat) (i : Nat) : Value := .slice (a i) (ls.getD i []).length (c i)
def LRow (w : World) (B : Nat) (A : Option Addr) (ls : List (List Wd)) : Prop :=
  ∃ (a : Nat → Option Addr) (c : Nat → Nat), Row w B A ls.length (lv ls a c) ∧ ∀ i, i < ls.length → SRow w B (a i) (ls.getD i [])

theorem SRow.below {w w' : World} {B : Nat} {A : Option Addr} {ws : List Wd} (h : SRow w B A ws) (hb : Below B w w') : SRow w' B A ws := Row.below h hb
theorem SRow.more {w : World} {B B' : Nat} {A : Option Addr} {ws : List Wd} (h : SRow w B A ws) (hB : B ≤ B') : SRow w B' A ws := Row.more h hB
theorem IRow.below {w w' : World} {B : Nat} {A : Option Addr} {l : List Int} (h : IRow w B A l) (hb : Below B w w') : IRow w' B A l := Row.below h hb
theorem IRow.more {w : World} {B B' : Nat} {A : Option Addr} {l : List Int} (h : IRow w B A l) (hB : B ≤ B') : IRow w B' A l := Row.more h hB
theorem LRow.below {w w' : World} {B : Nat} {A : Option Addr} {ls : List (List Wd)} (h : LRow w B A ls) (hb : Below B w w') : LRow w' B A ls := by
  obtain ⟨a, c, h1, h2⟩ := h
  exact ⟨a, c, h1.below hb, fun i hi => (h2 i hi).below hb⟩
theorem LRow.more {w : World} {B B' : Nat} {A : Option Addr} {ls : List (List Wd)} (h : LRow w B A ls) (hB : B ≤ B') : LRow w B' A ls := by
  obtain ⟨a, c, h1, h2⟩ := h
  exact ⟨a, c, h1.more hB, fun i hi => (h2 i hi).more hB⟩
/-- on behind a call that leaves the old blocks alone -/
theorem SRow.on {w w' : World} {A : Option Addr} {ws : List Wd} (h : SRow w w.heap.size A ws) (hb : Below w.heap.size w w') : SRow w' w'.heap.size A ws := (h.below hb).more hb.size
theorem IRow.on {w w' : World} {A : Option Addr} {l : List Int} (h : IRow w w.heap.size A l) (hb : Below w.heap.size w w') : IRow w' w'.heap.size A l := (h.below hb).more hb.size
theorem LRow.on {w w' : World} {A : Option Addr} {ls : List (List Wd)} (h : LRow w w.heap.size A ls) (hb : Below w.heap.size w w') : LRow w' w'.heap.size A ls := (h.below hb).more hb.size

theorem map_range_getD {α β : Type} (l : List α) (d : α) (g : α → β) : l.map g = (List.range l.length).map fun i => g (l.getD i d) := by
  apply List.ext_getElem
  · simp
  · intro i h1 h2
    simp only [List.length_map] at h1
    simp [h1]
/-- a row of the call's own, its cells told by a list -/
theorem own_row {α : Type} {w : World} {base : Nat} {e : TypeId} {A : Option Addr} {n c : Nat} {l : List α} (d : α) {g : α → Value} (h : w.ownsRow base e 1 (.slice A n c) n (l.map g)) : n = l.length ∧ Row w w.heap.size A n (fun i => g (l.getD i d)) := by
  have hn : n = l.length := by have := h.1; simp at this; omega
  subst hn
  rw [map_range_getD l d g] at h
  exact ⟨rfl, Row.of_owns h⟩
theorem own_slice {w : World} {base : Nat} {e : TypeId} {v : Value} {n : Nat} {xs : List Value} (h : w.ownsRow base e 1 v n xs) : ∃ A c, v = .slice A n c ∧ n ≤ c := by
  rcases h.2 with ⟨rfl, rfl⟩ | ⟨g, cap, cur, rfl, _, _, hc, _⟩
  · exact ⟨_, _, rfl, Nat.le_refl _⟩
  · exact ⟨_, _, rfl, hc⟩
/-- such a row, and another world in which all blocks but new ones are as they were -/
theorem own_below {w w' : World} {base : Nat} {e : TypeId} {v : Value} {n : Nat} {xs : List Value} (h : w.ownsRow base e 1 v n xs) (hb : Below w.heap.size w w') : w'.ownsRow base e 1 v n xs := by
  refine ⟨h.1, ?_⟩
  rcases h.2 with h2 | ⟨g, cap, cur, hv, h1, hg, r⟩
  · exact .inl h2
  · refine .inr ⟨g, cap, cur, hv, h1, ?_, r⟩
    have hlt : g < w.heap.size := by
      rcases Nat.lt_or_ge g w.heap.size with h | h
      · exact h
      · rw [Array.getElem?_eq_none h] at hg; cases hg
    rw [hb.block g hlt, hg]

section
variable {P : Program}

theorem run_app_zero (w : World) (base : Nat) (t ty e : TypeId) (i : TypeInfo) (ht : P.underlying t = some (.slice e)) (hi : P.info? e = some i)
    (v : Value) (n : Nat) (xs : List Value) (hown : w.ownsRow base e 1 v n xs) (A : Option Addr) (c : Nat) : (Builtin.append_ #[t, t] ty #[v, .slice A 0 c]).run P w = .ok v w := by
  rcases hown.2 with ⟨rfl, rfl⟩ | ⟨g, cap, cur, rfl, _, _, hnc, _⟩
  · simp [Builtin.append_, run_underlying ht, sizeOf, typeInfo, hi, Builtin.lenOf, Builtin.firstCells]
    cases A <;> simp [loadCells, loadCellsFrom]
  · simp [Builtin.append_, run_underlying ht, sizeOf, typeInfo, hi, Builtin.lenOf, Builtin.firstCells, hnc, storeCells]
    cases A <;> simp [loadCells, loadCellsFrom, storeCells]

/-- append(own, x...), x a row of whatever length -/
theorem wpList_app_row (w : World) {ops : Array Oper} {rest : List Oper} {o : Oper} {a : Act} {Q : Exit → Act → World → Prop} (hgd : o.guard = none) (s x : Operand) (t : TypeId)
    (ho : o.op = .call { callee := .builtin .append, args := #[s, x], argTypes := #[t, t] })
    (base : Nat) (e : TypeId) (z : Value) (bytes : Nat) (ht : P.underlying t = some (.slice e)) (hinfo : (P.info? e).map (fun i => (i.zero, i.size, i.bytes)) = some (some z, 1, bytes)) (hz1 : z.cells.size = 1)
    (v : Value) (n : Nat) (xs : List Value) (hs : a.eval s = v) (hown : w.ownsRow base e 1 v n xs)
    (A : Option Addr) (m c : Nat) (f : Nat → Value) (hx : a.eval x = .slice A m c) (hr : Row w w.heap.size A m f) (h1 : ∀ i, i < m → (f i).oneCell' = true)
    (h63 : n + m ≤ maxLen) (hbytes : (n + m) * bytes ≤ 140737488355328) (hbase : base ≤ w.heap.size)
    (h : ∀ v' w', w'.ownsRow base e 1 v' (n + m) (xs ++ (List.range m).map f) → w.grownBy w' v.ownBlock → (v'.ownBlock = v.ownBlock ∨ v'.ownBlock = some w.heap.size) → wpList P ops Q rest (a.put o.dst v') w') : wpList P ops Q (o :: rest) a w := by
  obtain ⟨i, hi, hzz⟩ := Option.map_eq_some_iff.1 hinfo
  simp only [Prod.mk.injEq] at hzz
  obtain ⟨hz, hsz, hb⟩ := hzz
  by_cases hm : m = 0
  · subst hm
    refine wpList_plain hgd fun K hK => ?_
    have hrun := run_app_zero (P := P) w base t o.type e i ht hi v n xs hown A c
    unfold Oper.wp execOp
    simp only [ho, resolve, invoke, builtin, Sem.run_bind, Sem.run_pure, Result.andThen_ok, List.map_toArray, List.map_cons, List.map_nil, hs, hx, hrun]
    exact hK _ _ (h v w (by simpa using hown) (World.grownBy.refl w _) (.inl rfl))
  · obtain ⟨b, off, rfl, hbl, hc⟩ := hr (by omega)
    refine wpList_append_lies w hgd s x t ho base e i z 1 bytes ht hi hz hsz hb hz1 (by omega) v n xs hs hown ⟨b, off, none⟩ m c ((List.range m).map f) hx (by simp) ?_ ?_ (by omega) h63 hbytes hbase w.heap.size rfl ?_
    · intro j u hu
      by_cases hj : j < m
      · simp [hj] at hu
        subst hu
        have e1 : (⟨b, off, none⟩ : Addr).add j = ⟨b, off + j, none⟩ := by
          by_cases h0 : j = 0
          · subst h0; simp [Addr.add]
          · simp [Addr.add, h0]
        rw [e1]; exact hc j hj
      · simp [hj] at hu
    · intro u hu
      simp at hu
      obtain ⟨j, hj, rfl⟩ := hu
      exact h1 j hj
    · intro g cap w' hown' hgrow hg _
      exact h _ w' hown' hgrow (hg.elim (fun hg => .inl hg.symm) (fun hg => .inr (congrArg some hg)))

/-- append(own, u) -/
theorem wpList_app1 (w : World) {ops : Array Oper} {rest : List Oper} {o : Oper} {a : Act} {Q : Exit → Act → World → Prop} (hgd : o.guard = none) (s x : Operand) (t : TypeId)
    (ho : o.op = .call { callee := .builtin .append, args := #[s, x], argTypes := #[t, t] })
    (base : Nat) (e : TypeId) (z : Value) (bytes : Nat) (ht : P.underlying t = some (.slice e)) (hinfo : (P.info? e).map (fun i => (i.zero, i.size, i.bytes)) = some (some z, 1, bytes)) (hz1 : z.cells.size = 1)
    (v : Value) (n : Nat) (xs : List Value) (hs : a.eval s = v) (b : Nat) (u : Value) (hx : a.eval x = .slice (some ⟨b, 0, none⟩) 1 1)
    (hown : w.ownsRow base e 1 v n xs) (hc : w.cell? ⟨b, 0, none⟩ = some u) (hbl : b < w.heap.size) (h1 : u.oneCell' = true) (h63 : n + 1 ≤ maxLen) (hbytes : (n + 1) * bytes ≤ 140737488355328) (hbase : base ≤ w.heap.size)
    (h : ∀ v' w', w'.ownsRow base e 1 v' (n + 1) (xs ++ [u]) → w.grownBy w' v.ownBlock → (v'.ownBlock = v.ownBlock ∨ v'.ownBlock = some w.heap.size) → wpList P ops Q rest (a.put o.dst v') w') : wpList P ops Q (o :: rest) a w :=
  wpList_app_row w hgd s x t ho base e z bytes ht hinfo hz1 v n xs hs hown _ 1 1 (fun _ => u) hx (fun _ => ⟨b, 0, rfl, hbl, fun i hi => by rw [show 0 + i = 0 from by omega]; exact hc⟩) (fun _ _ => h1) h63 hbytes hbase (fun v' w' h2 h3 h4 => h v' w' (by simpa using h2) h3 h4)
end

/-- lines in the making: a row of the call's own (its cells: xs), whose cells lead to rows of words in other blocks -/
structure LOwn (base : Nat) (e : TypeId) (v : Value) (ls : List (List Wd)) (xs : List Value) (w : World) : Prop where
  own : w.ownsRow base e 1 v ls.length xs
  some_ : ∃ (a : Nat → Option Addr) (c : Nat → Nat), xs = (List.range ls.length).map (lv ls a c) ∧
    ∀ i, i < ls.length → (ls.getD i []).length = 0 ∨ ∃ g o, a i = some ⟨g, o, none⟩ ∧ g < w.heap.size ∧ some g ≠ v.ownBlock ∧ ∀ j, j < (ls.getD i []).length → w.cell? ⟨g, o + j, none⟩ = some (sv ((ls.getD i []).getD j []))

theorem LOwn.nil (base : Nat) (e : TypeId) (w : World) : LOwn base e (.slice none 0 0) [] [] w :=
  ⟨World.ownsRow_nil _ _ _ _, fun _ => none, fun _ => 0, rfl, fun i hi => absurd hi (by simp)⟩
theorem LOwn.row {base : Nat} {e : TypeId} {A : Option Addr} {n c : Nat} {ls : List (List Wd)} {xs : List Value} {w : World} (h : LOwn base e (.slice A n c) ls xs w) (hn : n = ls.length) : LRow w w.heap.size A ls := by
  obtain ⟨h1, a, c', rfl, h2⟩ := h
  subst hn
  refine ⟨a, c', Row.of_owns h1, fun i hi hp => ?_⟩
  rcases h2 i hi with h0 | ⟨g, o, ha, hg, _, hc⟩
  · omega
  · exact ⟨g, o, ha, hg, hc⟩
theorem LOwn.below {base : Nat} {e : TypeId} {v : Value} {ls : List (List Wd)} {xs : List Value} {w w' : World} (h : LOwn base e v ls xs w) (hb : Below w.heap.size w w') : LOwn base e v ls xs w' := by
  obtain ⟨h1, a, c, rfl, h2⟩ := h
  refine ⟨own_below h1 hb, a, c, rfl, fun i hi => ?_⟩
  rcases h2 i hi with h0 | ⟨g, o, ha, hg, hne, hc⟩
  · exact .inl h0
  · exact .inr ⟨g, o, ha, Nat.lt_of_lt_of_le hg hb.size, hne, fun j hj => (hb.cell (p := ⟨g, o + j, none⟩) hg).trans (hc j hj)⟩
theorem getD_snoc_lt {α : Type} (l : List α) (x d : α) (i : Nat) (h : i < l.length) : (l ++ [x]).getD i d = l.getD i d := by
  simp [List.getD_eq_getElem?_getD, List.getElem?_append_left h]
theorem getD_snoc_eq {α : Type} (l : List α) (x d : α) : (l ++ [x]).getD l.length d = x := by simp
/-- one line more -/
theorem LOwn.app {base : Nat} {e : TypeId} {v v' : Value} {ls : List (List Wd)} {xs : List Value} {w w' : World} (h : LOwn base e v ls xs w) (L : List Wd) (A : Option Addr) (cap : Nat)
    (hA : L.length = 0 ∨ ∃ g o, A = some ⟨g, o, none⟩ ∧ g < w.heap.size ∧ some g ≠ v.ownBlock ∧ ∀ j, j < L.length → w.cell? ⟨g, o + j, none⟩ = some (sv (L.getD j [])))
    (hg : w.grownBy w' v.ownBlock) (hv : v'.ownBlock = v.ownBlock ∨ v'.ownBlock = some w.heap.size)
    (hnew : w'.ownsRow base e 1 v' (ls.length + 1) (xs ++ [.slice A L.length cap])) : LOwn base e v' (ls ++ [L]) (xs ++ [.slice A L.length cap]) w' := by
  obtain ⟨h1, a, c, rfl, h2⟩ := h
  have keep : ∀ g o, g < w.heap.size → some g ≠ v.ownBlock → w'.cell? ⟨g, o, none⟩ = w.cell? ⟨g, o, none⟩ := fun g o hlt hne => hg.cell_far ⟨g, o, none⟩ hlt hne
  have hne' : ∀ g, g < w.heap.size → some g ≠ v.ownBlock → some g ≠ v'.ownBlock := fun g hlt hne he => by
    rcases hv with hv | hv
    · exact hne (by rw [he, hv])
    · rw [hv] at he; injection he with he; omega
  refine ⟨by simpa using hnew, fun i => if i < ls.length then a i else A, fun i => if i < ls.length then c i else cap, ?_, ?_⟩
  · rw [List.length_append, List.length_singleton, List.range_succ, List.map_append]
    have e1 : (List.range ls.length).map (lv (ls ++ [L]) (fun i => if i < ls.length then a i else A) (fun i => if i < ls.length then c i else cap)) = (List.range ls.length).map (lv ls a c) := by
      apply List.map_congr_left
      intro i hi
      have hi' := List.mem_range.1 hi
      simp only [lv, if_pos hi', getD_snoc_lt ls L [] i hi']
    rw [e1]
    simp [lv]
  · intro i hi
    simp only [List.length_append, List.length_singleton] at hi
    by_cases hlt : i < ls.length
    · simp only [getD_snoc_lt ls L [] i hlt, if_pos hlt]
      rcases h2 i hlt with h0 | ⟨g, o, ha, hgl, hne, hc⟩
      · exact .inl h0
      · exact .inr ⟨g, o, ha, Nat.lt_of_lt_of_le hgl hg.size, hne' g hgl hne, fun j hj => (keep g _ hgl hne).trans (hc j hj)⟩
    · obtain rfl : i = ls.length := by omega
      simp only [getD_snoc_eq ls L [], if_neg hlt]
      rcases hA with h0 | ⟨g, o, ha, hgl, hne, hc⟩
      · exact .inl h0
      · exact .inr ⟨g, o, ha, Nat.lt_of_lt_of_le hgl hg.size, hne' g hgl hne, fun j hj => (keep g _ hgl hne).trans (hc j hj)⟩

end Go.Proofs.YtoeemehdkejhfaaDoor
