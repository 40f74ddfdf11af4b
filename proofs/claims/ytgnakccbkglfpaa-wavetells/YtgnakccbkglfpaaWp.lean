/- shareOut: two lists of each, noughts and ones, the empty ones left out. -/
import Derived.Test.YtgnakccbkglfpaaWo
import Derived.Test.YtgnakccbkglfpaaWj
namespace Go.Proofs.Ytgnakccbkglfpaa
open Go.RowKit

theorem infoSl : (Try.prog.info? 25).map (fun i => (i.zero, i.size, i.bytes)) = some (some (.slice none 0 0), 1, 24) := by kernel_rfl

/-- two lists in the making, in unlike blocks -/
structure SI (V : World) (N O : List Nat) (v8 v9 : Value) (W : World) : Prop where
  n : OL V (up N) v8 W
  o : OL V (up O) v9 W
  ne : ∀ g, v8.ownBlock = some g → v9.ownBlock ≠ some g
section
variable {V : World} {N O : List Nat} {v8 v9 : Value} {W W' : World}
theorem SI.nil (V : World) : SI V [] [] (.slice none 0 0) (.slice none 0 0) V := ⟨OL.nil V V (Below.refl _ _), OL.nil V V (Below.refl _ _), fun g h => by simp [Value.ownBlock] at h⟩
theorem SI.on (h : SI V N O v8 v9 W) (hb : Below W.heap.size W W') : SI V N O v8 v9 W' := ⟨h.n.on hb, h.o.on hb, h.ne⟩
theorem none_or {a b : Option Nat} (h : ∀ g, a = some g → b ≠ some g) : a = none ∨ a ≠ b := by
  cases a with
  | none => exact .inl rfl
  | some g => exact .inr (fun e => h g rfl e.symm)
theorem SI.appO (h : SI V N O v8 v9 W) (x : Nat) {v' : Value} (h2 : W'.ownsRow V.heap.size 3 1 v' ((up O).length + 1) ((up O).map (Value.int .i64) ++ [.int .i64 x])) (hg : W.grownBy W' v9.ownBlock) (hv : v'.ownBlock = v9.ownBlock ∨ v'.ownBlock = some W.heap.size) : SI V N (O ++ [x]) v8 v' W' := by
  have ho := h.o.app (x : Int) h2 hg
  refine ⟨⟨h.n.own.kept hg (none_or h.ne), ho.old⟩, by rw [up_append]; exact ho, fun g hg8 => ?_⟩
  have hlt := (h.n.own.lt g hg8).2
  rcases hv with hv | hv
  · rw [hv]; exact h.ne g hg8
  · rw [hv]; intro e; injection e with e; omega
theorem SI.appN (h : SI V N O v8 v9 W) (x : Nat) {v' : Value} (h2 : W'.ownsRow V.heap.size 3 1 v' ((up N).length + 1) ((up N).map (Value.int .i64) ++ [.int .i64 x])) (hg : W.grownBy W' v8.ownBlock) (hv : v'.ownBlock = v8.ownBlock ∨ v'.ownBlock = some W.heap.size) : SI V (N ++ [x]) O v' v9 W' := by
  have hn := h.n.app (x : Int) h2 hg
  refine ⟨by rw [up_append]; exact hn, ⟨h.o.own.kept hg (none_or (fun g hg9 e => h.ne g e hg9)), hn.old⟩, fun g hg8 e9 => ?_⟩
  have hlt := (h.o.own.lt g e9).2
  rcases hv with hv | hv
  · rw [hv] at hg8; exact h.ne g hg8 e9
  · rw [hv] at hg8; injection hg8 with hg8; omega
end

/-- a row of the call's own that holds numbers -/
def ON (base : Nat) (L : List Nat) (v : Value) (W : World) : Prop := W.ownsRow base 3 1 v L.length ((up L).map (Value.int .i64))
theorem OL.on_ {V : World} {L : List Nat} {v : Value} {W : World} (h : OL V (up L) v W) : ON V.heap.size L v W := by
  have hown := h.own
  rw [up_len] at hown
  exact hown
/-- where such a list lies -/
theorem ON.lies {V : Nat} {L : List Nat} {A : Option Addr} {n c : Nat} {W : World} (h : ON V L (.slice A n c) W) : n = L.length ∧ (L.length = 0 ∨ ∃ g, A = some ⟨g, 0, none⟩ ∧ V ≤ g ∧ g < W.heap.size ∧ ∀ j, j < L.length → W.cell? ⟨g, 0 + j, none⟩ = some (.int .i64 ((L.getD j 0 : Nat) : Int))) := by
  have hown : W.ownsRow V 3 1 (.slice A n c) L.length ((up L).map (Value.int .i64)) := h
  have hn : n = L.length := by
    rcases hown.2 with ⟨e, h0⟩ | ⟨g, cap, cur, e, _⟩
    · injection e with _ e _; omega
    · injection e with _ e _
  refine ⟨hn, ?_⟩
  by_cases h0 : L.length = 0
  · exact .inl h0
  · right
    obtain ⟨g, cap, e, hb, hlt⟩ := hown.form (by omega)
    injection e with e1 e2 e3
    subst hn
    have hmap : (up L).map (Value.int .i64) = L.map (fun (x : Nat) => Value.int .i64 (x : Int)) := by unfold up; rw [List.map_map]; rfl
    rw [hmap] at hown
    obtain ⟨_, hr⟩ := own_row (0 : Nat) hown
    obtain ⟨b, o, e4, hb2, hc⟩ := hr (by omega)
    rw [e1] at e4
    injection e4 with e4
    injection e4 with e5 e6
    subst e5 e6
    exact ⟨g, e1, hb, hlt, hc⟩

/-- the two halves of what has been read of a list -/
def nz (s : Nat) (g : List Nat) : List Nat := g.filter fun n => !Wv.bit s n
def on (s : Nat) (g : List Nat) : List Nat := g.filter (Wv.bit s)
theorem nz_snoc (s : Nat) (g : List Nat) (m : Nat) (h : m < g.length) (y : Bool) (hy : Wv.bit s (g.getD m 0) = y) : nz s (g.take (m + 1)) = nz s (g.take m) ++ (if y = true then [] else [g.getD m 0]) ∧ on s (g.take (m + 1)) = on s (g.take m) ++ (if y = true then [g.getD m 0] else []) := by
  have e : g.take (m + 1) = g.take m ++ [g.getD m 0] := by
    rw [List.take_succ_eq_append_getElem h, List.getD_eq_getElem?_getD, List.getElem?_eq_getElem h]; rfl
  unfold nz on
  rw [e, List.filter_append, List.filter_append]
  cases y <;> simp [List.filter_cons] <;> simp [List.getD_eq_getElem?_getD] at hy ⊢ <;> simp [hy]
theorem nz_len (s : Nat) (g : List Nat) (m : Nat) : (nz s (g.take m)).length ≤ m ∧ (on s (g.take m)).length ≤ m := by
  unfold nz on
  have h1 := List.length_filter_le (fun n => !Wv.bit s n) (g.take m)
  have h2 := List.length_filter_le (Wv.bit s) (g.take m)
  rw [List.length_take] at h1 h2
  omega
theorem share_take (s : Nat) (gs : List (List Nat)) (k : Nat) (hk : k < gs.length) : Wv.share s (gs.take (k + 1)) = Wv.share s (gs.take k) ++ (if (nz s (gs.getD k [])).length = 0 then [] else [nz s (gs.getD k [])]) ++ (if (on s (gs.getD k [])).length = 0 then [] else [on s (gs.getD k [])]) := by
  unfold Wv.share
  rw [List.take_succ_eq_append_getElem hk, List.flatMap_append, List.append_assoc]
  congr 1
  rw [show gs.getD k [] = gs[k] from by simp [hk], List.flatMap_cons, List.flatMap_nil, List.append_nil]
  unfold Wv.full nz on
  generalize gs[k].filter (fun n => !Wv.bit s n) = a
  generalize gs[k].filter (Wv.bit s) = b
  cases a <;> cases b <;> rfl
theorem share_len (s : Nat) (gs : List (List Nat)) : (Wv.share s gs).length ≤ 2 * gs.length := by
  unfold Wv.share
  induction gs with
  | nil => simp
  | cons g gs ih =>
    rw [List.flatMap_cons, List.length_append, List.length_cons]
    have := List.length_filter_le (fun g : List Nat => !g.isEmpty) [g.filter (fun n => !Wv.bit s n), g.filter (Wv.bit s)]
    unfold Wv.full at ih ⊢
    simp only [List.length_cons, List.length_nil] at this
    omega

end Go.Proofs.Ytgnakccbkglfpaa
