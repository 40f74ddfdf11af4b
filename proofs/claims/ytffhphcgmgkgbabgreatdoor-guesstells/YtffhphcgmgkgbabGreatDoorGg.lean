/- Words for memory: a row of what was seen, the shortest first, in the making; a slice from a place on. -/
import Derived.Test.YtffhphcgmgkgbabGreatDoorGf
import Derived.Deep.AppendLies
namespace Go.Proofs.YtffhphcgmgkgbabGreatDoor
open Go.RowKit
attribute [local irreducible] Bt.pop Bt.popF

/-- a slice from a place on -/
def subA (A : Option Addr) (c k : Nat) : Option Addr := if c = k then A else A.map (·.add k)
theorem run_sub (A : Option Addr) (n c k : Nat) (hk : k ≤ n) (hc : n ≤ c) (W : World) : ((Instr.sliceAt 22 (.slice A n c) (some (.int .i64 k)) none none).run Tryz.prog W).andThen (fun v w => .ok (Next.value v) w) = .ok (Next.value (.slice (subA A c k) (n - k) (c - k))) W := by
  obtain ⟨i, hi, hzz⟩ := Option.map_eq_some_iff.1 infoInt4
  simp only [Prod.mk.injEq] at hzz
  obtain ⟨_, hsz, _⟩ := hzz
  by_cases h0 : c = k
  · subst h0
    obtain rfl : n = c := by omega
    simp [Instr.sliceAt, Instr.slice, Instr.sliceBounds, Instr.sliceBound, run_underlying Tryz.underlying22, sizeOf, typeInfo, hi, asIntOf, subA]
  · simp [Instr.sliceAt, Instr.slice, Instr.sliceBounds, Instr.sliceBound, run_underlying Tryz.underlying22, sizeOf, typeInfo, hi, asIntOf, subA, h0, hsz, hk]
theorem irow_sub {W : World} {B : Nat} {A : Option Addr} {s : List Int} (h : IRow W B A s) (c k : Nat) (hc : s.length ≤ c) : IRow W B (subA A c k) (s.drop k) := by
  intro hn
  rw [List.length_drop] at hn
  obtain ⟨b, o, rfl, hb, hcell⟩ := h (by omega)
  refine ⟨b, o + k, ?_, hb, fun i hi => ?_⟩
  · unfold subA
    rw [if_neg (by omega)]
    by_cases h0 : k = 0
    · subst h0; rfl
    · simp [Addr.add, h0]
  · rw [List.length_drop] at hi
    rw [Nat.add_assoc, hcell (k + i) (by omega)]
    simp [List.getD_eq_getElem?_getD, List.getElem?_drop]

/-- what the cells of the j-th tell -/
def SeX (l s : List Int) (j : Nat) (v : Value) (xs : List Value) (W : World) : Prop :=
  ∃ g, xs[j * 3]? = some (.slice (some ⟨g, 0, none⟩) (En.most l + 1) (En.most l + 1)) ∧ xs[j * 3 + 1]? = some (.int .i64 (Pt.all l (s.drop (s.length - j)) : Nat)) ∧ xs[j * 3 + 2]? = some (.int .i64 (Pt.unl l (s.drop (s.length - j)) : Nat)) ∧
    W.rowIs g 3 (En.most l + 1) (fun x => .int .i64 (Pt.wz l (s.drop (s.length - j)) x : Nat)) ∧ some g ≠ v.ownBlock ∧ 0 < Pt.unl l (s.drop (s.length - j))
/-- k of them in the making -/
structure SeO (base : Nat) (l s : List Int) (k : Nat) (v : Value) (xs : List Value) (W : World) : Prop where
  own : W.ownsRow base 69 3 v k xs
  each : ∀ j, j < k → SeX l s j v xs W
theorem SeO.nil (base : Nat) (l s : List Int) (W : World) : SeO base l s 0 (.slice none 0 0) [] W := ⟨World.ownsRow_nil _ _ _ _, fun j hj => absurd hj (by omega)⟩
theorem SeO.on {base : Nat} {l s : List Int} {k : Nat} {v : Value} {xs : List Value} {W W' : World} (h : SeO base l s k v xs W) (hb : Below W.heap.size W W') : SeO base l s k v xs W' :=
  ⟨own_below' h.own hb, fun j hj => by
    obtain ⟨g, h1, h2, h3, h4, h5⟩ := h.each j hj
    exact ⟨g, h1, h2, h3, h4.of_block (hb.block _ h4.lt), h5⟩⟩
theorem SeO.app {base : Nat} {l s : List Int} {k : Nat} {v v' : Value} {xs : List Value} {W W' : World} (h : SeO base l s k v xs W) (g : Nat)
    (hI : W.rowIs g 3 (En.most l + 1) (fun x => .int .i64 (Pt.wz l (s.drop (s.length - k)) x : Nat))) (n1 : some g ≠ v.ownBlock) (hu : 0 < Pt.unl l (s.drop (s.length - k)))
    (hg : W.grownBy W' v.ownBlock) (hv : v'.ownBlock = v.ownBlock ∨ v'.ownBlock = some W.heap.size)
    (hnew : W'.ownsRow base 69 3 v' (k + 1) (xs ++ [.slice (some ⟨g, 0, none⟩) (En.most l + 1) (En.most l + 1), .int .i64 (Pt.all l (s.drop (s.length - k)) : Nat), .int .i64 (Pt.unl l (s.drop (s.length - k)) : Nat)])) :
    SeO base l s (k + 1) v' (xs ++ [.slice (some ⟨g, 0, none⟩) (En.most l + 1) (En.most l + 1), .int .i64 (Pt.all l (s.drop (s.length - k)) : Nat), .int .i64 (Pt.unl l (s.drop (s.length - k)) : Nat)]) W' := by
  have hlen : xs.length = k * 3 := h.own.1
  have hne' : ∀ x, x < W.heap.size → some x ≠ v.ownBlock → some x ≠ v'.ownBlock := fun x hlt hne he => by
    rcases hv with hv | hv
    · exact hne (by rw [he, hv])
    · rw [hv] at he; injection he with he; omega
  refine ⟨hnew, fun j hj => ?_⟩
  by_cases hjk : j < k
  · obtain ⟨a, q1, q2, q3, q4, q5, q6⟩ := h.each j hjk
    refine ⟨a, ?_, ?_, ?_, q4.of_block (hg.block a q4.lt q5), hne' a q4.lt q5, q6⟩
    · rw [List.getElem?_append_left (by omega)]; exact q1
    · rw [List.getElem?_append_left (by omega)]; exact q2
    · rw [List.getElem?_append_left (by omega)]; exact q3
  · obtain rfl : j = k := by omega
    refine ⟨g, ?_, ?_, ?_, hI.of_block (hg.block g hI.lt n1), hne' g hI.lt n1, hu⟩
    · rw [List.getElem?_append_right (by omega), hlen, Nat.sub_self]; rfl
    · rw [List.getElem?_append_right (by omega), hlen, show j * 3 + 1 - j * 3 = 1 from by omega]; rfl
    · rw [List.getElem?_append_right (by omega), hlen, show j * 3 + 2 - j * 3 = 2 from by omega]; rfl

/-- k of them in a row -/
structure Seen (W : World) (A : Option Addr) (l s : List Int) (k : Nat) : Prop where
  le : k ≤ s.length + 1
  stop : k = s.length + 1 ∨ Pt.unl l (s.drop (s.length - k)) = 0
  row : 0 < k → ∃ b o, A = some ⟨b, o, none⟩ ∧ b < W.heap.size ∧ ∀ j, j < k → ∃ g, W.cell? ⟨b, o + j * 3, none⟩ = some (.slice (some ⟨g, 0, none⟩) (En.most l + 1) (En.most l + 1)) ∧ W.cell? ⟨b, o + j * 3 + 1, none⟩ = some (.int .i64 (Pt.all l (s.drop (s.length - j)) : Nat)) ∧
    W.cell? ⟨b, o + j * 3 + 2, none⟩ = some (.int .i64 (Pt.unl l (s.drop (s.length - j)) : Nat)) ∧ W.rowIs g 3 (En.most l + 1) (fun x => .int .i64 (Pt.wz l (s.drop (s.length - j)) x : Nat)) ∧ 0 < Pt.unl l (s.drop (s.length - j))
theorem Seen.on {W W' : World} {A : Option Addr} {l s : List Int} {k : Nat} (h : Seen W A l s k) (hb : Below W.heap.size W W') : Seen W' A l s k :=
  ⟨h.le, h.stop, fun hk => by
    obtain ⟨b, o, e, hlt, hc⟩ := h.row hk
    refine ⟨b, o, e, Nat.lt_of_lt_of_le hlt hb.size, fun j hj => ?_⟩
    obtain ⟨g, h1, h2, h3, h4, h5⟩ := hc j hj
    exact ⟨g, (hb.cell (p := ⟨b, o + j * 3, none⟩) hlt).trans h1, (hb.cell (p := ⟨b, o + j * 3 + 1, none⟩) hlt).trans h2, (hb.cell (p := ⟨b, o + j * 3 + 2, none⟩) hlt).trans h3, h4.of_block (hb.block _ h4.lt), h5⟩⟩
theorem SeO.seen {base : Nat} {l s : List Int} {k : Nat} {A : Option Addr} {n c : Nat} {xs : List Value} {W : World} (h : SeO base l s k (.slice A n c) xs W) (hk : k ≤ s.length + 1) (hs : k = s.length + 1 ∨ Pt.unl l (s.drop (s.length - k)) = 0) : n = k ∧ Seen W A l s k := by
  rcases h.own.2 with ⟨e, h0⟩ | ⟨g, cap, cur, e, _, hgc, hcap, _⟩
  · injection e with e1 e2 e3
    exact ⟨by omega, hk, hs, fun h => absurd h (by omega)⟩
  · injection e with e1 e2 e3
    subst e1 e2 e3
    have hlt : g < W.heap.size := by
      rcases Nat.lt_or_ge g W.heap.size with h' | h'
      · exact h'
      · rw [Array.getElem?_eq_none h'] at hgc; cases hgc
    refine ⟨rfl, hk, hs, fun _ => ⟨g, 0, rfl, hlt, fun j hj => ?_⟩⟩
    obtain ⟨a, q1, q2, q3, q4, _, q6⟩ := h.each j hj
    refine ⟨a, ?_, ?_, ?_, q4, q6⟩
    · rw [Nat.zero_add, h.own.cellAt _ (by omega)]; exact q1
    · rw [Nat.zero_add, h.own.cellAt _ (by omega)]; exact q2
    · rw [Nat.zero_add, h.own.cellAt _ (by omega)]; exact q3
/-- what seenBehindLast hands back -/
def SeenL (w : World) (l s : List Int) (e : Ending) (w' : World) : Prop := ∃ A k c, e = .returned (.slice A k c) ∧ Seen w' A l s k ∧ Below w.heap.size w w'

end Go.Proofs.YtffhphcgmgkgbabGreatDoor
