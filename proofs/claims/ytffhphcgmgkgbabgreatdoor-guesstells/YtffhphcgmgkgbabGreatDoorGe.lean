/- seenBehind of package guess: what each sign weighs behind some signs, what all weigh, and how many unlike ones there are. -/
import Derived.Test.YtffhphcgmgkgbabGreatDoorGd0
import Derived.Test.YtffhphcgmgkgbabGreatDoorJb
namespace Go.Proofs.YtffhphcgmgkgbabGreatDoor
open Go.RowKit
attribute [local irreducible] Bt.pop Bt.popF

namespace Pt
/-- the first k of the signs that stand there: what they weigh, all together, how many -/
def pw (l s : List Int) (k x : Nat) : Nat := if x ≠ 0 ∧ x ∈ (En.bhd l s).take k then wt l s x else 0
def pa (l s : List Int) (k : Nat) : Nat := ((((En.bhd l s).take k).filter fun x => x != 0).map (wt l s)).sum
def pu (l s : List Int) (k : Nat) : Nat := (((En.bhd l s).take k).filter fun x => x != 0).length
theorem pw_zero (l s : List Int) (x : Nat) : pw l s 0 x = 0 := by simp [pw]
theorem pa_zero (l s : List Int) : pa l s 0 = 0 := rfl
theorem pu_zero (l s : List Int) : pu l s 0 = 0 := rfl
theorem take_at (K : List Nat) (k : Nat) (h : k < K.length) : K.take (k + 1) = K.take k ++ [K.getD k 0] := by
  rw [List.take_succ_eq_append_getElem h]; simp [h]
theorem p_none (l s : List Int) (k : Nat) (h : k < (En.bhd l s).length) (h0 : (En.bhd l s).getD k 0 = 0) : (∀ x, pw l s (k + 1) x = pw l s k x) ∧ pa l s (k + 1) = pa l s k ∧ pu l s (k + 1) = pu l s k := by
  unfold pw pa pu
  rw [take_at _ k h, h0]
  refine ⟨fun x => ?_, by simp, by simp⟩
  by_cases hx : x = 0
  · simp [hx]
  · simp [hx]
theorem p_some (l s : List Int) (k : Nat) (h : k < (En.bhd l s).length) (x : Nat) (hx : (En.bhd l s).getD k 0 = x) (h0 : x ≠ 0) : (∀ y, pw l s (k + 1) y = if y = x then wt l s x else pw l s k y) ∧ pa l s (k + 1) = pa l s k + wt l s x ∧ pu l s (k + 1) = pu l s k + 1 := by
  unfold pw pa pu
  rw [take_at _ k h, hx]
  refine ⟨fun y => ?_, by simp [h0], by simp [h0]⟩
  by_cases hy : y = x
  · subst hy; simp [h0]
  · simp [hy]
/-- what each sign weighs; Last weighs nothing -/
def wz (l s : List Int) (x : Nat) : Nat := if x = 0 then 0 else wt l s x
theorem pw_end {l : List Int} (h : En.Sg l) (s : List Int) (x : Nat) : pw l s (En.bhd l s).length x = wz l s x := by
  unfold pw wz
  rw [List.take_length]
  by_cases hx : x = 0
  · simp [hx]
  · rw [if_neg hx]
    by_cases hm : x ∈ En.bhd l s
    · rw [if_pos ⟨hx, hm⟩]
    · rw [if_neg (fun hh => hm hh.2)]
      rcases Nat.eq_zero_or_pos (wt l s x) with h0 | h0
      · exact h0.symm
      · exact absurd ((wt_pos h s x).1 h0) hm
theorem pa_end (l s : List Int) : pa l s (En.bhd l s).length = all l s := by unfold pa all sgs; rw [List.take_length]
theorem pu_end (l s : List Int) : pu l s (En.bhd l s).length = unl l s := by unfold pu unl sgs; rw [List.take_length]
theorem bhd_le (l s : List Int) (k : Nat) : (En.bhd l s).getD k 0 ≤ En.most l := by
  have key : ∀ v, v ∈ En.bhd l s → v ≤ En.most l := by
    intro v hv
    unfold En.bhd at hv
    have := List.mem_range.1 (List.mem_filter.1 hv).1
    omega
  by_cases h : k < (En.bhd l s).length
  · refine key _ ?_
    rw [show (En.bhd l s).getD k 0 = (En.bhd l s)[k] from by simp [h]]; exact List.getElem_mem h
  · rw [List.getD_eq_getElem?_getD, List.getElem?_eq_none (by omega)]; simp
theorem sub_sum (g : Nat → Nat) : ∀ (K : List Nat) (k : Nat), (((K.take k).filter fun x => x != 0).map g).sum ≤ ((K.filter fun x => x != 0).map g).sum
  | [], k => by simp
  | x :: K, 0 => by simp
  | x :: K, k + 1 => by
    have := sub_sum g K k
    rw [List.take_succ_cons, List.filter_cons, List.filter_cons]
    split
    · simp only [List.map_cons, List.sum_cons]; omega
    · exact this
theorem pa_le {l : List Int} (h : En.Sg l) (s : List Int) (k : Nat) : pa l s k ≤ l.length := Nat.le_trans (sub_sum (wt l s) _ k) (all_le h s)
theorem bhd_len (l s : List Int) : (En.bhd l s).length ≤ En.most l + 1 := by
  unfold En.bhd
  exact Nat.le_trans (List.length_filter_le _ _) (by simp)
theorem pu_le (l s : List Int) (k : Nat) : pu l s k ≤ En.most l + 1 := by
  have h1 := bhd_len l s
  have h2 : ((En.bhd l s).take k).length ≤ (En.bhd l s).length := by rw [List.length_take]; omega
  have h3 := List.length_filter_le (fun x => x != 0) ((En.bhd l s).take k)
  unfold pu
  omega
theorem wt_len {l : List Int} (h : En.Sg l) (s : List Int) (x : Nat) : wt l s x ≤ l.length :=
  Nat.le_trans (wt_le h s x) (Nat.le_trans (List.length_filter_le _ _) (by simp))
end Pt

/-- the cells of what was seen -/
def bhF (v : Value) (a u : Nat) : Nat → Value := fun j => if j = 0 then v else if j = 1 then .int .i64 a else .int .i64 u

/-- what was seen, in the making: the result's block R, the weights' block G, the block B -/
structure SA (w0 : World) (R G B m a u : Nat) (f : Nat → Nat) (W : World) : Prop where
  res : W.rowIs R 69 3 (bhF (.slice none 0 0) 0 0)
  bx : W.rowIs B 69 3 (bhF (.slice (some ⟨G, 0, none⟩) (m + 1) (m + 1)) a u)
  wts : W.rowIs G 3 (m + 1) (fun x => .int .i64 (f x : Nat))
  old : Below w0.heap.size w0 W
  r1 : w0.heap.size ≤ R
  r2 : R < G
  r3 : G < B
section
variable {w0 : World} {R G B m a u : Nat} {f : Nat → Nat} {W W' : World}
theorem SA.on (h : SA w0 R G B m a u f W) (hb : Below W.heap.size W W') : SA w0 R G B m a u f W' :=
  ⟨h.res.of_block (hb.block _ h.res.lt), h.bx.of_block (hb.block _ h.bx.lt), h.wts.of_block (hb.block _ h.wts.lt), h.old.trans (hb.mono h.old.size), h.r1, h.r2, h.r3⟩
theorem SA.grown {r : Option Nat} (h : SA w0 R G B m a u f W) (hg : W.grownBy W' r) (hr : ∀ k, r = some k → B < k) : SA w0 R G B m a u f W' := by
  have r1 := h.r1
  have r2 := h.r2
  have r3 := h.r3
  have ne : ∀ x, x ≤ B → some x ≠ r := fun x hx he => by have := hr x he.symm; omega
  exact ⟨h.res.of_block (hg.block _ h.res.lt (ne R (by omega))), h.bx.of_block (hg.block _ h.bx.lt (ne B (by omega))), h.wts.of_block (hg.block _ h.wts.lt (ne G (by omega))),
    h.old.grown hg h.old.size (fun k hk => by have := hr k hk; omega), r1, r2, r3⟩
theorem SA.setX (h : SA w0 R G B m a u f W) (X i : Nat) (v : Value) (hX : B < X) : SA w0 R G B m a u f (W.setCell ⟨X, i, none⟩ v) := by
  have r1 := h.r1
  have r2 := h.r2
  have r3 := h.r3
  exact ⟨h.res.setOther (a := ⟨X, i, none⟩) (by show R ≠ X; omega) v, h.bx.setOther (a := ⟨X, i, none⟩) (by show B ≠ X; omega) v, h.wts.setOther (a := ⟨X, i, none⟩) (by show G ≠ X; omega) v, h.old.setCell (p := ⟨X, i, none⟩) (by show _ ≤ X; omega) v, r1, r2, r3⟩
theorem SA.setW (h : SA w0 R G B m a u f W) (x y : Nat) : SA w0 R G B m a u (fun z => if z = x then y else f z) (W.setCell ⟨G, x, none⟩ (.int .i64 y)) := by
  have r1 := h.r1
  have r2 := h.r2
  have r3 := h.r3
  exact ⟨h.res.setOther (a := ⟨G, x, none⟩) (by show R ≠ G; omega) _, h.bx.setOther (a := ⟨G, x, none⟩) (by show B ≠ G; omega) _, (h.wts.set x _).congr (fun i _ => by by_cases e : i = x <;> simp [e]), h.old.setCell (p := ⟨G, x, none⟩) (by show _ ≤ G; omega) _, r1, r2, r3⟩
theorem SA.setA (h : SA w0 R G B m a u f W) (a' : Nat) : SA w0 R G B m a' u f (W.setCell ⟨B, 1, none⟩ (.int .i64 a')) := by
  have r1 := h.r1
  have r2 := h.r2
  have r3 := h.r3
  refine ⟨h.res.setOther (a := ⟨B, 1, none⟩) (by show R ≠ B; omega) _, (h.bx.set 1 _).congr (fun i hi => ?_), h.wts.setOther (a := ⟨B, 1, none⟩) (by show G ≠ B; omega) _, h.old.setCell (p := ⟨B, 1, none⟩) (by show _ ≤ B; omega) _, r1, r2, r3⟩
  match i, hi with
  | 0, _ => rfl
  | 1, _ => rfl
  | 2, _ => rfl
theorem SA.setU (h : SA w0 R G B m a u f W) (u' : Nat) : SA w0 R G B m a u' f (W.setCell ⟨B, 2, none⟩ (.int .i64 u')) := by
  have r1 := h.r1
  have r2 := h.r2
  have r3 := h.r3
  refine ⟨h.res.setOther (a := ⟨B, 2, none⟩) (by show R ≠ B; omega) _, (h.bx.set 2 _).congr (fun i hi => ?_), h.wts.setOther (a := ⟨B, 2, none⟩) (by show G ≠ B; omega) _, h.old.setCell (p := ⟨B, 2, none⟩) (by show _ ≤ B; omega) _, r1, r2, r3⟩
  match i, hi with
  | 0, _ => rfl
  | 1, _ => rfl
  | 2, _ => rfl
theorem SA.b0 (h : SA w0 R G B m a u f W) : W.cell? ⟨B, 0, none⟩ = some (.slice (some ⟨G, 0, none⟩) (m + 1) (m + 1)) := h.bx.cell (i := 0) (by omega)
theorem SA.b1 (h : SA w0 R G B m a u f W) : W.cell? ⟨B, 1, none⟩ = some (.int .i64 a) := h.bx.cell (i := 1) (by omega)
theorem SA.b2 (h : SA w0 R G B m a u f W) : W.cell? ⟨B, 2, none⟩ = some (.int .i64 u) := h.bx.cell (i := 2) (by omega)
theorem SA.congr (h : SA w0 R G B m a u f W) {f' : Nat → Nat} (e : ∀ x, x ≤ m → f x = f' x) : SA w0 R G B m a u f' W :=
  ⟨h.res, h.bx, h.wts.congr (fun i hi => by rw [e i (by omega)]), h.old, h.r1, h.r2, h.r3⟩
end

/-- with the signs and one more behind them (block X), and the signs that stand there -/
structure SB (w0 : World) (R G B m X cap y1 n : Nat) (s : List Int) (q : Int) (K : List Int) (vY : Value) (a u : Nat) (f : Nat → Nat) (W : World) : Prop where
  sa : SA w0 R G B m a u f W
  mo : W.ownsRow (B + 1) 3 1 (.slice (some ⟨X, 0, none⟩) (n + 1) cap) (n + 1) (s.map (Value.int .i64) ++ [.int .i64 q])
  bh : W.ownsRow y1 3 1 vY K.length (K.map (Value.int .i64))
  xy : X < y1
  len : n = s.length
section
variable {w0 : World} {R G B m X cap y1 n : Nat} {s : List Int} {q : Int} {K : List Int} {vY : Value} {a u : Nat} {f : Nat → Nat} {W W' : World}
theorem SB.on (h : SB w0 R G B m X cap y1 n s q K vY a u f W) (hb : Below W.heap.size W W') : SB w0 R G B m X cap y1 n s q K vY a u f W' :=
  ⟨h.sa.on hb, own_below h.mo hb, own_below h.bh hb, h.xy, h.len⟩
theorem SB.bX (h : SB w0 R G B m X cap y1 n s q K vY a u f W) : B < X := by have := (h.mo.lt X rfl).1; omega
theorem SB.row (h : SB w0 R G B m X cap y1 n s q K vY a u f W) : IRow W W.heap.size (some ⟨X, 0, none⟩) (s ++ [q]) := by
  have h1 : W.ownsRow (B + 1) 3 1 (.slice (some ⟨X, 0, none⟩) (n + 1) cap) (n + 1) ((s ++ [q]).map (Value.int .i64)) := by simpa using h.mo
  obtain ⟨h2, h3⟩ := own_row (0 : Int) h1
  rw [h2] at h3
  exact h3
theorem SB.capOk (h : SB w0 R G B m X cap y1 n s q K vY a u f W) : n + 1 ≤ cap := by
  obtain ⟨A, c, e, hc⟩ := own_slice h.mo
  injection e with _ _ e
  omega
theorem SB.last (h : SB w0 R G B m X cap y1 n s q K vY a u f W) : W.cell? ⟨X, n, none⟩ = some (.int .i64 q) := by
  rw [h.mo.cellAt n (by omega), h.len]
  simp
theorem SB.setM (h : SB w0 R G B m X cap y1 n s q K vY a u f W) (x : Int) : SB w0 R G B m X cap y1 n s x K vY a u f (W.setCell ⟨X, n, none⟩ (.int .i64 x)) := by
  have h1 := (h.mo.stored n (.int .i64 x)).1
  have e : (s.map (Value.int .i64) ++ [Value.int .i64 q]).set n (Value.int .i64 x) = s.map (Value.int .i64) ++ [Value.int .i64 x] := by
    rw [h.len]
    have : (s.map (Value.int .i64)).length = s.length := List.length_map _
    rw [List.set_append_right _ _ (by rw [this]; exact Nat.le_refl _), this, Nat.sub_self]
    rfl
  rw [e] at h1
  exact ⟨h.sa.setX X n _ h.bX, h1, ownsRow_setCell_below h.bh (a := ⟨X, n, none⟩) h.xy _, h.xy, h.len⟩
theorem SB.low (h : SB w0 R G B m X cap y1 n s q K vY a u f W) (k i : Nat) (v : Value) (hk : k ≤ B) {a' u' : Nat} {f' : Nat → Nat} (hs : SA w0 R G B m a' u' f' (W.setCell ⟨k, i, none⟩ v)) : SB w0 R G B m X cap y1 n s q K vY a' u' f' (W.setCell ⟨k, i, none⟩ v) :=
  ⟨hs, ownsRow_setCell_below h.mo (a := ⟨k, i, none⟩) (by show k < B + 1; omega) _, ownsRow_setCell_below h.bh (a := ⟨k, i, none⟩) (by have := h.bX; have := h.xy; show k < y1; omega) _, h.xy, h.len⟩
theorem SB.setW (h : SB w0 R G B m X cap y1 n s q K vY a u f W) (x y : Nat) : SB w0 R G B m X cap y1 n s q K vY a u (fun z => if z = x then y else f z) (W.setCell ⟨G, x, none⟩ (.int .i64 y)) := h.low G x _ (by have := h.sa.r3; omega) (h.sa.setW x y)
theorem SB.setA (h : SB w0 R G B m X cap y1 n s q K vY a u f W) (a' : Nat) : SB w0 R G B m X cap y1 n s q K vY a' u f (W.setCell ⟨B, 1, none⟩ (.int .i64 a')) := h.low B 1 _ (Nat.le_refl _) (h.sa.setA a')
theorem SB.setU (h : SB w0 R G B m X cap y1 n s q K vY a u f W) (u' : Nat) : SB w0 R G B m X cap y1 n s q K vY a u' f (W.setCell ⟨B, 2, none⟩ (.int .i64 u')) := h.low B 2 _ (Nat.le_refl _) (h.sa.setU u')
theorem SB.congr (h : SB w0 R G B m X cap y1 n s q K vY a u f W) {f' : Nat → Nat} (e : ∀ x, x ≤ m → f x = f' x) : SB w0 R G B m X cap y1 n s q K vY a u f' W := ⟨h.sa.congr e, h.mo, h.bh, h.xy, h.len⟩
theorem SB.at_ (h : SB w0 R G B m X cap y1 n s q K vY a u f W) (k : Nat) (hk : k < K.length) : ∃ Y c o, vY = .slice (some ⟨Y, o, none⟩) K.length c ∧ W.cell? ⟨Y, o + k, none⟩ = some (.int .i64 (K.getD k 0)) := by
  obtain ⟨A, c, rfl, _⟩ := own_slice h.bh
  obtain ⟨_, hr⟩ := own_row (0 : Int) h.bh
  obtain ⟨b, o, rfl, _, hc⟩ := hr (by omega)
  exact ⟨b, c, o, rfl, hc k hk⟩
end

theorem SA.start {w0 w1 : World} {R m : Nat} (hR : w1.rowIs R 69 3 (bhF (.slice none 0 0) 0 0)) (hb : Below w0.heap.size w0 w1) (hr : w0.heap.size ≤ R) :
    SA w0 R w1.heap.size (w1.heap.size + 1) m 0 0 (fun _ => 0) ((w1.alloc (.cells (madeCells #[.int .i64 0] (m + 1)) 3)).alloc (.cells #[.slice (some ⟨w1.heap.size, 0, none⟩) (m + 1) (m + 1), .int .i64 0, .int .i64 0] 69)) := by
  refine ⟨(hR.alloc _).alloc _, ?_, (World.rowIs_made w1 (.int .i64 0) (m + 1) 3).alloc _, (hb.alloc hb.size _).alloc (by simp; have := hb.size; omega) _, hr, hR.lt, by omega⟩
  have h := World.rowIs_alloc (w1.alloc (.cells (madeCells #[.int .i64 0] (m + 1)) 3)) #[.slice (some ⟨w1.heap.size, 0, none⟩) (m + 1) (m + 1), .int .i64 0, .int .i64 0] 69 (bhF (.slice (some ⟨w1.heap.size, 0, none⟩) (m + 1) (m + 1)) 0 0) (fun i hi => by
    match i, hi with
    | 0, _ => rfl
    | 1, _ => rfl
    | 2, _ => rfl)
  simpa using h

/-- what was seen behind signs: the weights in a block of the call's own -/
def SeenIs (w : World) (l s : List Int) (e : Ending) (w' : World) : Prop :=
  ∃ g, e = .returned (.agg #[.slice (some ⟨g, 0, none⟩) (En.most l + 1) (En.most l + 1), .int .i64 (Pt.all l s : Nat), .int .i64 (Pt.unl l s : Nat)]) ∧ w.heap.size ≤ g ∧ w'.rowIs g 3 (En.most l + 1) (fun x => .int .i64 (Pt.wz l s x : Nat)) ∧ Below w.heap.size w w'

end Go.Proofs.YtffhphcgmgkgbabGreatDoor
