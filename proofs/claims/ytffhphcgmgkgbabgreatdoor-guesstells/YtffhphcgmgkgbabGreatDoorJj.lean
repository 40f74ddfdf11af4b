import Derived.Test.YtffhphcgmgkgbabGreatDoorJb
/- append onto nothing: a copy. No program is named here. -/
namespace Go.Proofs.YtffhphcgmgkgbabGreatDoor
open Go.RowKit
variable {P : Program}

/-- append([]T(nil), x...): a copy, or nothing -/
theorem wpList_copy_nil (w : World) {ops : Array Oper} {rest : List Oper} {o : Oper} {a : Act} {Q : Exit → Act → World → Prop} (hgd : o.guard = none) (s x : Operand) (t : TypeId)
    (ho : o.op = .call { callee := .builtin .append, args := #[s, x], argTypes := #[t, t] })
    (e : TypeId) (z : Value) (bytes : Nat) (ht : P.underlying t = some (.slice e)) (hinfo : (P.info? e).map (fun i => (i.zero, i.size, i.bytes)) = some (some z, 1, bytes)) (hz1 : z.cells.size = 1)
    (A : Option Addr) (n c : Nat) (f : Nat → Value) (hs : a.eval s = .slice none 0 0) (hx : a.eval x = .slice A n c) (hr : Row w w.heap.size A n f) (h1 : ∀ i, i < n → (f i).oneCell' = true)
    (h63 : n ≤ maxLen) (hbytes : n * bytes ≤ 140737488355328)
    (h : ∀ A' c' w', Row w' w'.heap.size A' n f → Below w.heap.size w w' → wpList P ops Q rest (a.put o.dst (.slice A' n c')) w') : wpList P ops Q (o :: rest) a w := by
  obtain ⟨i, hi, hzz⟩ := Option.map_eq_some_iff.1 hinfo
  simp only [Prod.mk.injEq] at hzz
  obtain ⟨hz, hsz, hb⟩ := hzz
  by_cases hn : n = 0
  · subst hn
    refine wpList_plain hgd fun K hK => ?_
    have hrun : (Builtin.append_ #[t, t] o.type #[.slice none 0 0, .slice A 0 c]).run P w = .ok (.slice none 0 0) w := by
      simp [Builtin.append_, run_underlying ht, sizeOf, typeInfo, hi, Builtin.lenOf, Builtin.firstCells]
      cases A <;> simp [loadCells, loadCellsFrom]
    unfold Oper.wp execOp
    simp only [ho, resolve, invoke, builtin, Sem.run_bind, Sem.run_pure, Result.andThen_ok, List.map_toArray, List.map_cons, List.map_nil, hs, hx, hrun]
    exact hK _ _ (h none 0 w Row.zero (Below.refl _ _))
  · obtain ⟨b, off, rfl, hbl, hc⟩ := hr (by omega)
    refine wpList_append_lies w hgd s x t ho w.heap.size e i z 1 bytes ht hi hz hsz hb hz1 (by omega) (.slice none 0 0) 0 [] hs (World.ownsRow_nil _ _ _ _) ⟨b, off, none⟩ n c ((List.range n).map f) hx (by simp) ?_ ?_ (by omega) (by omega) (by simpa using hbytes) (Nat.le_refl _) w.heap.size rfl ?_
    · intro j u hu
      by_cases hj : j < n
      · simp [hj] at hu
        subst hu
        have e1 : (⟨b, off, none⟩ : Addr).add j = ⟨b, off + j, none⟩ := by
          by_cases h0 : j = 0
          · subst h0; simp [Addr.add]
          · simp [Addr.add, h0]
        rw [e1]; exact hc j hj
      · simp [hj] at hu
    · intro u hu
      simp at hu
      obtain ⟨j, hj, rfl⟩ := hu
      exact h1 j hj
    · intro g cap w' hown hgrow _ _
      rw [Nat.zero_add, List.nil_append] at hown
      rw [Nat.zero_add]
      exact h _ cap w' (Row.of_owns hown) ((Below.refl _ w).grown hgrow (Nat.le_refl _) (fun k hk => by simp [Value.ownBlock] at hk))

/-- append([]T(nil), x...): a copy, or nothing, and its capacity is no less than its length -/
theorem wpList_copy_cap (w : World) {ops : Array Oper} {rest : List Oper} {o : Oper} {a : Act} {Q : Exit → Act → World → Prop} (hgd : o.guard = none) (s x : Operand) (t : TypeId)
    (ho : o.op = .call { callee := .builtin .append, args := #[s, x], argTypes := #[t, t] })
    (e : TypeId) (z : Value) (bytes : Nat) (ht : P.underlying t = some (.slice e)) (hinfo : (P.info? e).map (fun i => (i.zero, i.size, i.bytes)) = some (some z, 1, bytes)) (hz1 : z.cells.size = 1)
    (A : Option Addr) (n c : Nat) (f : Nat → Value) (hs : a.eval s = .slice none 0 0) (hx : a.eval x = .slice A n c) (hr : Row w w.heap.size A n f) (h1 : ∀ i, i < n → (f i).oneCell' = true)
    (h63 : n ≤ maxLen) (hbytes : n * bytes ≤ 140737488355328)
    (h : ∀ A' c' w', n ≤ c' → Row w' w'.heap.size A' n f → Below w.heap.size w w' → wpList P ops Q rest (a.put o.dst (.slice A' n c')) w') : wpList P ops Q (o :: rest) a w := by
  obtain ⟨i, hi, hzz⟩ := Option.map_eq_some_iff.1 hinfo
  simp only [Prod.mk.injEq] at hzz
  obtain ⟨hz, hsz, hb⟩ := hzz
  by_cases hn : n = 0
  · subst hn
    refine wpList_plain hgd fun K hK => ?_
    have hrun : (Builtin.append_ #[t, t] o.type #[.slice none 0 0, .slice A 0 c]).run P w = .ok (.slice none 0 0) w := by
      simp [Builtin.append_, run_underlying ht, sizeOf, typeInfo, hi, Builtin.lenOf, Builtin.firstCells]
      cases A <;> simp [loadCells, loadCellsFrom]
    unfold Oper.wp execOp
    simp only [ho, resolve, invoke, builtin, Sem.run_bind, Sem.run_pure, Result.andThen_ok, List.map_toArray, List.map_cons, List.map_nil, hs, hx, hrun]
    exact hK _ _ (h none 0 w (Nat.le_refl _) Row.zero (Below.refl _ _))
  · obtain ⟨b, off, rfl, hbl, hc⟩ := hr (by omega)
    refine wpList_append_lies w hgd s x t ho w.heap.size e i z 1 bytes ht hi hz hsz hb hz1 (by omega) (.slice none 0 0) 0 [] hs (World.ownsRow_nil _ _ _ _) ⟨b, off, none⟩ n c ((List.range n).map f) hx (by simp) ?_ ?_ (by omega) (by omega) (by simpa using hbytes) (Nat.le_refl _) w.heap.size rfl ?_
    · intro j u hu
      by_cases hj : j < n
      · simp [hj] at hu
        subst hu
        have e1 : (⟨b, off, none⟩ : Addr).add j = ⟨b, off + j, none⟩ := by
          by_cases h0 : j = 0
          · subst h0; simp [Addr.add]
          · simp [Addr.add, h0]
        rw [e1]; exact hc j hj
      · simp [hj] at hu
    · intro u hu
      simp at hu
      obtain ⟨j, hj, rfl⟩ := hu
      exact h1 j hj
    · intro g cap w' hown hgrow _ _
      rw [Nat.zero_add, List.nil_append] at hown
      rw [Nat.zero_add]
      exact h _ cap w' (by
        rcases hown.2 with ⟨_, h0⟩ | ⟨g', cap', cur, hv, _, _, hc, _⟩
        · omega
        · injection hv with _ _ hv; omega) (Row.of_owns hown) ((Below.refl _ w).grown hgrow (Nat.le_refl _) (fun k hk => by simp [Value.ownBlock] at hk))

end Go.Proofs.YtffhphcgmgkgbabGreatDoor
