import Derived.Test.YtoejenejleocdabGreatDoorJp
import Derived.Test.YtoejenejleocdabGreatDoorGh
import Derived.Test.YtoejenejleocdabGreatDoorJz
import Derived.Test.YtoejenejleocdabGreatDoorJq
import Derived.Test.YtoejenejleocdabGreatDoorJh
/- Of whatever index: words for memory: a row of what was seen, in the making. -/
namespace Go.Proofs.YtoejenejleocdabGreatDoor
open Go.RowKit
attribute [local irreducible] Bt.pop Bt.popF

/-- what the cells of the j-th tell -/
def SeXr (m j : Nat) (v : Value) (xs : List Value) (W : World) : Prop :=
  ∃ (g : Nat) (a u : Int) (f : Nat → Int), xs[j * 3]? = some (.slice (some ⟨g, 0, none⟩) (m + 1) (m + 1)) ∧ xs[j * 3 + 1]? = some (.int .i64 a) ∧ xs[j * 3 + 2]? = some (.int .i64 u) ∧
    W.rowIs g 3 (m + 1) (fun x => .int .i64 (f x)) ∧ some g ≠ v.ownBlock
/-- k of them in the making -/
structure SeOr (base m k : Nat) (v : Value) (xs : List Value) (W : World) : Prop where
  own : W.ownsRow base 107 3 v k xs
  each : ∀ j, j < k → SeXr m j v xs W
theorem SeOr.nil (base m : Nat) (W : World) : SeOr base m 0 (.slice none 0 0) [] W := ⟨World.ownsRow_nil _ _ _ _, fun j hj => absurd hj (by omega)⟩
theorem SeOr.on {base m k : Nat} {v : Value} {xs : List Value} {W W' : World} (h : SeOr base m k v xs W) (hb : Below W.heap.size W W') : SeOr base m k v xs W' :=
  ⟨own_below' h.own hb, fun j hj => by
    obtain ⟨g, a, u, f, h1, h2, h3, h4, h5⟩ := h.each j hj
    exact ⟨g, a, u, f, h1, h2, h3, h4.of_block (hb.block _ h4.lt), h5⟩⟩
theorem SeOr.app {base m k : Nat} {v v' : Value} {xs : List Value} {W W' : World} (h : SeOr base m k v xs W) (g : Nat) (a u : Int) (f : Nat → Int)
    (hI : W.rowIs g 3 (m + 1) (fun x => .int .i64 (f x))) (n1 : some g ≠ v.ownBlock)
    (hg : W.grownBy W' v.ownBlock) (hv : v'.ownBlock = v.ownBlock ∨ v'.ownBlock = some W.heap.size)
    (hnew : W'.ownsRow base 107 3 v' (k + 1) (xs ++ [.slice (some ⟨g, 0, none⟩) (m + 1) (m + 1), .int .i64 a, .int .i64 u])) :
    SeOr base m (k + 1) v' (xs ++ [.slice (some ⟨g, 0, none⟩) (m + 1) (m + 1), .int .i64 a, .int .i64 u]) W' := by
  have hlen : xs.length = k * 3 := h.own.1
  have hne' : ∀ x, x < W.heap.size → some x ≠ v.ownBlock → some x ≠ v'.ownBlock := fun x hlt hne he => by
    rcases hv with hv | hv
    · exact hne (by rw [he, hv])
    · rw [hv] at he; injection he with he; omega
  refine ⟨hnew, fun j hj => ?_⟩
  by_cases hjk : j < k
  · obtain ⟨b, a', u', f', q1, q2, q3, q4, q5⟩ := h.each j hjk
    refine ⟨b, a', u', f', ?_, ?_, ?_, q4.of_block (hg.block b q4.lt q5), hne' b q4.lt q5⟩
    · rw [List.getElem?_append_left (by omega)]; exact q1
    · rw [List.getElem?_append_left (by omega)]; exact q2
    · rw [List.getElem?_append_left (by omega)]; exact q3
  · obtain rfl : j = k := by omega
    refine ⟨g, a, u, f, ?_, ?_, ?_, hI.of_block (hg.block g hI.lt n1), hne' g hI.lt n1⟩
    · rw [List.getElem?_append_right (by omega), hlen, Nat.sub_self]; rfl
    · rw [List.getElem?_append_right (by omega), hlen, show j * 3 + 1 - j * 3 = 1 from by omega]; rfl
    · rw [List.getElem?_append_right (by omega), hlen, show j * 3 + 2 - j * 3 = 2 from by omega]; rfl

/-- k of them in a row -/
structure SeenR (W : World) (A : Option Addr) (m k : Nat) : Prop where
  le : k ≤ 3
  row : 0 < k → ∃ b o, A = some ⟨b, o, none⟩ ∧ b < W.heap.size ∧ ∀ j, j < k → ∃ (g : Nat) (a u : Int) (f : Nat → Int), W.cell? ⟨b, o + j * 3, none⟩ = some (.slice (some ⟨g, 0, none⟩) (m + 1) (m + 1)) ∧ W.cell? ⟨b, o + j * 3 + 1, none⟩ = some (.int .i64 a) ∧
    W.cell? ⟨b, o + j * 3 + 2, none⟩ = some (.int .i64 u) ∧ W.rowIs g 3 (m + 1) (fun x => .int .i64 (f x))
theorem SeenR.on {W W' : World} {A : Option Addr} {m k : Nat} (h : SeenR W A m k) (hb : Below W.heap.size W W') : SeenR W' A m k :=
  ⟨h.le, fun hk => by
    obtain ⟨b, o, e, hlt, hc⟩ := h.row hk
    refine ⟨b, o, e, Nat.lt_of_lt_of_le hlt hb.size, fun j hj => ?_⟩
    obtain ⟨g, a, u, f, h1, h2, h3, h4⟩ := hc j hj
    exact ⟨g, a, u, f, (hb.cell (p := ⟨b, o + j * 3, none⟩) hlt).trans h1, (hb.cell (p := ⟨b, o + j * 3 + 1, none⟩) hlt).trans h2, (hb.cell (p := ⟨b, o + j * 3 + 2, none⟩) hlt).trans h3, h4.of_block (hb.block _ h4.lt)⟩⟩
theorem SeOr.seen {base m k : Nat} {A : Option Addr} {n c : Nat} {xs : List Value} {W : World} (h : SeOr base m k (.slice A n c) xs W) (hk : k ≤ 3) : n = k ∧ SeenR W A m k := by
  rcases h.own.2 with ⟨e, h0⟩ | ⟨g, cap, cur, e, _, hgc, hcap, _⟩
  · injection e with e1 e2 e3
    exact ⟨by omega, hk, fun h => absurd h (by omega)⟩
  · injection e with e1 e2 e3
    subst e1 e2 e3
    have hlt : g < W.heap.size := by
      rcases Nat.lt_or_ge g W.heap.size with h' | h'
      · exact h'
      · rw [Array.getElem?_eq_none h'] at hgc; cases hgc
    refine ⟨rfl, hk, fun _ => ⟨g, 0, rfl, hlt, fun j hj => ?_⟩⟩
    obtain ⟨b, a, u, f, q1, q2, q3, q4, _⟩ := h.each j hj
    refine ⟨b, a, u, f, ?_, ?_, ?_, q4⟩
    · rw [Nat.zero_add, h.own.cellAt _ (by omega)]; exact q1
    · rw [Nat.zero_add, h.own.cellAt _ (by omega)]; exact q2
    · rw [Nat.zero_add, h.own.cellAt _ (by omega)]; exact q3
/-- what seenBehindLast hands back -/
def SeenLR (w : World) (m : Nat) (e : Ending) (w' : World) : Prop := ∃ A k c, e = .returned (.slice A k c) ∧ SeenR w' A m k ∧ Below w.heap.size w w'

end Go.Proofs.YtoejenejleocdabGreatDoor

/- Of whatever index: seenBehindLast. -/
namespace Go.Proofs.YtoejenejleocdabGreatDoor
open Go.RowKit
attribute [local irreducible] Bt.pop Bt.popF

theorem three_cellsI {W : World} {R : Nat} {v : Value} {a u : Int} (h : W.rowIs R 107 3 (bhI v a u)) : W.cell? ⟨R, 0, none⟩ = some v ∧ W.cell? ⟨R, 1, none⟩ = some (.int .i64 a) ∧ W.cell? ⟨R, 2, none⟩ = some (.int .i64 u) ∧ W.frozen? ⟨R, 0, none⟩ = false ∧ W.frozen? ⟨R, 1, none⟩ = false ∧ W.frozen? ⟨R, 2, none⟩ = false :=
  ⟨h.cell (i := 0) (by omega), h.cell (i := 1) (by omega), h.cell (i := 2) (by omega), h.frozen 0, h.frozen 1, h.frozen 2⟩
theorem wayAI {V w7 : World} {g n : Nat} {f : Nat → Value} {v : Value} {a u : Int} (hg : V.heap.size ≤ g) (g2 : w7.rowIs g 3 n f) (g3 : Below V.heap.size V w7) :
    (w7.alloc (.cells #[v, .int .i64 a, .int .i64 u] 107)).rowIs w7.heap.size 107 3 (bhI v a u) ∧ (w7.alloc (.cells #[v, .int .i64 a, .int .i64 u] 107)).rowIs g 3 n f ∧ V.heap.size ≤ g ∧ Below V.heap.size V (w7.alloc (.cells #[v, .int .i64 a, .int .i64 u] 107)) :=
  ⟨World.rowIs_alloc w7 #[v, .int .i64 a, .int .i64 u] 107 (bhI v a u) (fun i hi => by
    match i, hi with
    | 0, _ => rfl
    | 1, _ => rfl
    | 2, _ => rfl), g2.alloc _, hg, g3.alloc g3.size _⟩
theorem wayBI {V w7 : World} {g n : Nat} {f F : Nat → Value} {v : Value} {a u : Int} (hR : w7.rowIs V.heap.size 107 3 F) (hg : V.heap.size + 1 ≤ g) (g2 : w7.rowIs g 3 n f) (g3 : Below V.heap.size V w7) :
    (((w7.setCell ⟨V.heap.size, 0, none⟩ v).setCell ⟨V.heap.size, 1, none⟩ (.int .i64 a)).setCell ⟨V.heap.size, 2, none⟩ (.int .i64 u)).rowIs V.heap.size 107 3 (bhI v a u) ∧ (((w7.setCell ⟨V.heap.size, 0, none⟩ v).setCell ⟨V.heap.size, 1, none⟩ (.int .i64 a)).setCell ⟨V.heap.size, 2, none⟩ (.int .i64 u)).rowIs g 3 n f ∧ V.heap.size ≤ g ∧
      Below V.heap.size V (((w7.setCell ⟨V.heap.size, 0, none⟩ v).setCell ⟨V.heap.size, 1, none⟩ (.int .i64 a)).setCell ⟨V.heap.size, 2, none⟩ (.int .i64 u)) :=
  ⟨res_setI hR v a u, ((g2.setOther (a := ⟨V.heap.size, 0, none⟩) (by show g ≠ V.heap.size; omega) _).setOther (a := ⟨V.heap.size, 1, none⟩) (by show g ≠ V.heap.size; omega) _).setOther (a := ⟨V.heap.size, 2, none⟩) (by show g ≠ V.heap.size; omega) _, by omega,
    ((g3.setCell (p := ⟨V.heap.size, 0, none⟩) (Nat.le_refl _) _).setCell (p := ⟨V.heap.size, 1, none⟩) (Nat.le_refl _) _).setCell (p := ⟨V.heap.size, 2, none⟩) (Nat.le_refl _) _⟩
section
variable {w0 : World} {B : Nat} {E L S : Option Addr} {cE cL cS nE nL M : Nat} {N D : Int} {W : World}
theorem CR.al (h : CR w0 B E L S cE cL cS nE nL M N D W) (o : Obj) : (W.alloc o).cell? ⟨B, 0, none⟩ = some (.slice E nE cE) ∧ (W.alloc o).cell? ⟨B, 1, none⟩ = some (.int .i64 N) ∧ (W.alloc o).cell? ⟨B, 2, none⟩ = some (.int .i64 D) ∧ (W.alloc o).cell? ⟨B, 3, none⟩ = some (.slice L nL cL) ∧ (W.alloc o).cell? ⟨B, 4, none⟩ = some (.slice S M cS) :=
  let J := h.on ((Below.refl _ W).alloc (Nat.le_refl _) o)
  ⟨J.c0, J.c1, J.c2, J.c3, J.c4⟩
theorem CR.st (h : CR w0 B E L S cE cL cS nE nL M N D W) (X : Nat) (hX : B ≠ X) (v0 v1 v2 : Value) (i : Nat := 0) (j : Nat := 1) (k : Nat := 2) : (((W.setCell ⟨X, i, none⟩ v0).setCell ⟨X, j, none⟩ v1).setCell ⟨X, k, none⟩ v2).cell? ⟨B, 0, none⟩ = some (.slice E nE cE) ∧ (((W.setCell ⟨X, i, none⟩ v0).setCell ⟨X, j, none⟩ v1).setCell ⟨X, k, none⟩ v2).cell? ⟨B, 1, none⟩ = some (.int .i64 N) ∧ (((W.setCell ⟨X, i, none⟩ v0).setCell ⟨X, j, none⟩ v1).setCell ⟨X, k, none⟩ v2).cell? ⟨B, 2, none⟩ = some (.int .i64 D) ∧ (((W.setCell ⟨X, i, none⟩ v0).setCell ⟨X, j, none⟩ v1).setCell ⟨X, k, none⟩ v2).cell? ⟨B, 3, none⟩ = some (.slice L nL cL) ∧ (((W.setCell ⟨X, i, none⟩ v0).setCell ⟨X, j, none⟩ v1).setCell ⟨X, k, none⟩ v2).cell? ⟨B, 4, none⟩ = some (.slice S M cS) := by
  have far : ∀ o, (((W.setCell ⟨X, i, none⟩ v0).setCell ⟨X, j, none⟩ v1).setCell ⟨X, k, none⟩ v2).cell? ⟨B, o, none⟩ = W.cell? ⟨B, o, none⟩ := fun o => by
    rw [World.cell?_setCell_far _ ⟨X, k, none⟩ ⟨B, o, none⟩ _ (Ne.symm hX), World.cell?_setCell_far _ ⟨X, j, none⟩ ⟨B, o, none⟩ _ (Ne.symm hX), World.cell?_setCell_far _ ⟨X, i, none⟩ ⟨B, o, none⟩ _ (Ne.symm hX)]
  exact ⟨(far 0).trans h.c0, (far 1).trans h.c1, (far 2).trans h.c2, (far 3).trans h.c3, (far 4).trans h.c4⟩
end

set_option maxRecDepth 100000 in
set_option maxHeartbeats 4000000 in
theorem seenBehindLast_raw (E L S A : Option Addr) (cE cL cS nE nL M c : Nat) (N D : Int) (s : List Int) (w : World) (h : RC w E L S cE cL nE nL M N) (hM : M ≤ 17592186044416) (hr : IRow w w.heap.size A s) (hcap : s.length ≤ c) (hs : s.length ≤ 17592186044416) :
    Calls Tryz.prog 50 #[.agg #[.slice E nE cE, .int .i64 N, .int .i64 D, .slice L nL cL, .slice S M cS], .slice A s.length c] w (SeenLR w (M - 2)) := by
  obtain ⟨w0, hw0⟩ : ∃ w0, w0 = w.alloc (.cells #[.slice E nE cE, .int .i64 N, .int .i64 D, .slice L nL cL, .slice S M cS] 33) := ⟨_, rfl⟩
  have hb : Below w.heap.size w w0 := by rw [hw0]; exact (Below.refl _ w).alloc (Nat.le_refl _) _
  have J : CR w w.heap.size E L S cE cL cS nE nL M N D w0 := by rw [hw0]; exact CR.start h cS D (Below.refl _ _) 33
  have HJ : Hid (∀ W, Below w0.heap.size w0 W → CR w w.heap.size E L S cE cL cS nE nL M N D W) := Lib.hid fun W hW => J.on hW
  have HSb : Hid (∀ (A' : Option Addr) (c' k : Nat) W, k ≤ (Pt.last2 s).length → IRow w0 w0.heap.size A' (Pt.last2 s) → (Pt.last2 s).length ≤ c' → Below w0.heap.size w0 W → Calls Tryz.prog 82 #[.agg #[.slice E nE cE, .int .i64 N, .int .i64 D, .slice L nL cL, .slice S M cS], .slice (subA A' c' k) ((Pt.last2 s).length - k) (c' - k)] W (SomeW W (M - 2))) := Lib.hid fun A' c' k W hk hA hc hW => by
    have h1 := seenBehind_raw E L S (subA A' c' k) cE cL cS nE nL M (c' - k) N D ((Pt.last2 s).drop k) W (J.on hW).rc hM (irow_sub (hA.on hW) c' k hc) (by rw [List.length_drop, Pt.last2_len]; omega)
    rw [List.length_drop] at h1
    exact h1
  have HRow : Hid (IRow w0 w0.heap.size (subA A c (s.length - 2)) (Pt.last2 s)) := Lib.hid (irow_sub (hr.on hb) c (s.length - 2) hcap)
  have hl2 : (Pt.last2 s).length = min s.length 2 := Pt.last2_len s
  have HL2 : Hid ((Pt.last2 s).length = s.length - (s.length - 2)) := Lib.hid (by rw [hl2]; omega)
  have hle2 : (Pt.last2 s).length ≤ 2 := by rw [hl2]; omega
  have HSL := Lib.hid (fun W => run_sub A s.length c (s.length - 2) (by omega) hcap W)
  have HW0 := Lib.hid hw0
  have Hb := Lib.hid hb
  have hmax : max (0 : Int) ((s.length : Int) - 2) = ((s.length - 2 : Nat) : Int) := by omega
  have HMax := Lib.hid hmax
  clear h hM hr J hb hw0 hl2 hmax
  generalize M - 2 = mm at *
  generalize Pt.last2 s = t at *
  generalize s.length = n at *
  go_enter Tryz.func50, Tryz.ntmps50
  go_upto_region 2 with fail
  rw [← HW0.out]
  have e1 : (max (0 : Int) ((n : Int) - 2)).toNat = n - 2 := by omega
  rw [e1]
  rw [show (if c = n - 2 then A else Option.map (fun x => x.add (n - 2)) A) = subA A c (n - 2) from rfl, ← HL2.out]
  have hc1 : t.length ≤ c - (n - 2) := by have := HL2.out; omega
  clear HL2 e1 HMax HSL
  generalize subA A c (n - 2) = A1 at *
  generalize c - (n - 2) = c1 at *
  generalize hn1 : t.length = n1 at *
  have HN1 := Lib.hid hn1
  clear hn1
  go_wp2
  go_loopw [5, 6] (fun s5 s6 W => ∃ (k f : Nat) (xs : List Value) (A9 : Option Addr) (c9 : Nat), f + k = n1 + 1 ∧ s5 = .slice A9 k c9 ∧ s6 = .int .i64 ((f : Int) - 1) ∧ SeOr w0.heap.size mm k (.slice A9 k c9) xs W ∧ Below w0.heap.size w0 W) (fun _ s6 _ => (intOf s6 + 1).toNat)
  case atStart => exact ⟨0, n1 + 1, [], none, 0, rfl, rfl, by congr 1; omega, SeOr.nil _ _ _, Below.refl _ _⟩
  case round =>
    obtain ⟨k, f, xs, A9, c9, hfk, rfl, rfl, J, hbl⟩ := hrel
    generalize wr = V at *
    by_cases h0 : f = 0
    · subst h0
      have hk : k = n1 + 1 := by omega
      have hlt : ¬ ((0 : Int) ≤ ((0 : Nat) : Int) - 1) := by omega
      obtain ⟨_, HS⟩ := J.seen (by omega)
      have HS' := Lib.hid HS
      clear HS J HSb HJ hk
      go_wp2
      go_ret
      exact ⟨A9, k, c9, rfl, HS'.out, Hb.out.trans (hbl.mono Hb.out.size)⟩
    · obtain ⟨q, rfl⟩ : ∃ q, f = q + 1 := ⟨f - 1, by omega⟩
      rw [show (((q + 1 : Nat) : Int) - 1) = (q : Int) from by omega]
      have hqn : q ≤ n1 := by omega
      have HQK : Hid (q = n1 - k) := Lib.hid (by omega)
      have hqk1 : q + k ≤ n1 := by omega
      have hqk2 : n1 ≤ q + k := by omega
      clear hfk
      have HSf : Hid (∀ W, Below w0.heap.size w0 W → Calls Tryz.prog 82 #[.agg #[.slice E nE cE, .int .i64 N, .int .i64 D, .slice L nL cL, .slice S M cS], .slice (if c1 = q then A1 else Option.map (fun x => x.add q) A1) (n1 - q) (c1 - q)] W (SomeW W mm)) := Lib.hid fun W hW => HSb.out A1 c1 q W hqn HRow.out hc1 hW
      have hBa : Below V.heap.size V V.drew := (Below.refl _ _).drew
      have hBb : Below V.heap.size V (V.alloc (.cells #[.slice none 0 0, .int .i64 0, .int .i64 0] 107)).drew := ((Below.refl _ _).alloc (Nat.le_refl _) _).drew
      have hCa := HJ.out _ (hbl.trans (hBa.mono hbl.size))
      have hCb := HJ.out _ (hbl.trans (hBb.mono hbl.size))
      go_upto_region 6 with fail
      go_cut [7] from 16 to 31 (fun s7 W => ∃ (B g : Nat) (a u : Int) (f : Nat → Int), s7 = .pointer (some ⟨B, 0, none⟩) ∧ W.rowIs B 107 3 (bhI (.slice (some ⟨g, 0, none⟩) (mm + 1) (mm + 1)) a u) ∧ W.rowIs g 3 (mm + 1) (fun x => .int .i64 (f x)) ∧ V.heap.size ≤ g ∧ Below V.heap.size V W)
      case first =>
        have a0 := hCa.c0
        have a1 := hCa.c1
        have a2 := hCa.c2
        have a3 := hCa.c3
        have a4 := hCa.c4
        have b0 := hCb.c0
        have b1 := hCb.c1
        have b2 := hCb.c2
        have b3 := hCb.c3
        have b4 := hCb.c4
        have hz1 : (q : Int) ≤ (n1 : Int) := by omega
        have hVw : w.heap.size < V.heap.size := Nat.lt_of_lt_of_le (by rw [HW0.out]; simp) hbl.size
        have hRb : (V.alloc (.cells #[.slice none 0 0, .int .i64 0, .int .i64 0] 107)).drew.rowIs V.heap.size 107 3 (bhI (.slice none 0 0) 0 0) := (World.rowIs_alloc V #[.slice none 0 0, .int .i64 0, .int .i64 0] 107 (bhI (.slice none 0 0) 0 0) (fun i hi => by
          match i, hi with
          | 0, _ => rfl
          | 1, _ => rfl
          | 2, _ => rfl)).drew
        have hBa' := hbl.trans (hBa.mono hbl.size)
        have hBb' := hbl.trans (hBb.mono hbl.size)
        by_cases hcq : c1 = q
        · subst hcq
          have HSg : Hid (∀ W, Below w0.heap.size w0 W → Calls Tryz.prog 82 #[.agg #[.slice E nE cE, .int .i64 N, .int .i64 D, .slice L nL cL, .slice S M cS], .slice A1 0 0] W (SomeW W mm)) := Lib.hid fun W hW => by
            have h1 := HSf.out W hW
            rw [if_pos rfl, Nat.sub_self, show n1 - c1 = 0 from by omega] at h1
            exact h1
          clear HSf
          go_wp2_with fail
          go_region_held3 (fun w' => w'.cell? ⟨w.heap.size, 0, none⟩ = some (.slice E nE cE) ∧ w'.cell? ⟨w.heap.size, 1, none⟩ = some (.int .i64 N) ∧ w'.cell? ⟨w.heap.size, 2, none⟩ = some (.int .i64 D) ∧ w'.cell? ⟨w.heap.size, 3, none⟩ = some (.slice L nL cL) ∧ w'.cell? ⟨w.heap.size, 4, none⟩ = some (.slice S M cS))
            (first | exact ⟨a0, a1, a2, a3, a4⟩ | exact ⟨b0, b1, b2, b3, b4⟩ | exact ⟨C7.c0, C7.c1, C7.c2, C7.c3, C7.c4⟩ | exact C7.al _ | exact C7.st V.heap.size (Nat.ne_of_lt hVw) _ _ _ | go_keep)
            (first
              | (go_at_call 82; (with_reducible refine (HSg.out _ hBa').mono ?_); rintro e w7 ⟨g, a, u, ff, rfl, g1, g2, g3⟩; have C7 := HJ.out w7 (hBa'.trans (g3.mono hBa'.size)))
              | (go_at_call 82; (with_reducible refine (HSg.out _ hBb').mono ?_); rintro e w7 ⟨g, a, u, ff, rfl, g1, g2, g3⟩; have C7 := HJ.out w7 (hBb'.trans (g3.mono hBb'.size)); obtain ⟨y0, y1, y2, z0, z1, z2⟩ := three_cellsI (hRb.of_block (g3.block _ (by simp)))))
          all_goals
            go_wp2_with fail
            go_meet
            first
              | exact ⟨_, _, _, _, _, rfl, wayAI g1 g2 (hBa.trans (g3.mono hBa.size))⟩
              | exact ⟨_, _, _, _, _, rfl, wayBI (hRb.of_block (g3.block _ (by simp))) (by simpa using g1) g2 (hBb.trans (g3.mono hBb.size))⟩
        · have HSg : Hid (∀ W, Below w0.heap.size w0 W → Calls Tryz.prog 82 #[.agg #[.slice E nE cE, .int .i64 N, .int .i64 D, .slice L nL cL, .slice S M cS], .slice (Option.map (fun x => x.add q) A1) (n1 - q) (c1 - q)] W (SomeW W mm)) := Lib.hid fun W hW => by
            have h1 := HSf.out W hW
            rw [if_neg hcq] at h1
            exact h1
          clear HSf
          go_wp2_with fail
          go_region_held3 (fun w' => w'.cell? ⟨w.heap.size, 0, none⟩ = some (.slice E nE cE) ∧ w'.cell? ⟨w.heap.size, 1, none⟩ = some (.int .i64 N) ∧ w'.cell? ⟨w.heap.size, 2, none⟩ = some (.int .i64 D) ∧ w'.cell? ⟨w.heap.size, 3, none⟩ = some (.slice L nL cL) ∧ w'.cell? ⟨w.heap.size, 4, none⟩ = some (.slice S M cS))
            (first | exact ⟨a0, a1, a2, a3, a4⟩ | exact ⟨b0, b1, b2, b3, b4⟩ | exact ⟨C7.c0, C7.c1, C7.c2, C7.c3, C7.c4⟩ | exact C7.al _ | exact C7.st V.heap.size (Nat.ne_of_lt hVw) _ _ _ | go_keep)
            (first
              | (go_at_call 82; (with_reducible refine (HSg.out _ hBa').mono ?_); rintro e w7 ⟨g, a, u, ff, rfl, g1, g2, g3⟩; have C7 := HJ.out w7 (hBa'.trans (g3.mono hBa'.size)))
              | (go_at_call 82; (with_reducible refine (HSg.out _ hBb').mono ?_); rintro e w7 ⟨g, a, u, ff, rfl, g1, g2, g3⟩; have C7 := HJ.out w7 (hBb'.trans (g3.mono hBb'.size)); obtain ⟨y0, y1, y2, z0, z1, z2⟩ := three_cellsI (hRb.of_block (g3.block _ (by simp)))))
          all_goals
            go_wp2_with fail
            go_meet
            first
              | exact ⟨_, _, _, _, _, rfl, wayAI g1 g2 (hBa.trans (g3.mono hBa.size))⟩
              | exact ⟨_, _, _, _, _, rfl, wayBI (hRb.of_block (g3.block _ (by simp))) (by simpa using g1) g2 (hBb.trans (g3.mono hBb.size))⟩
      case rest =>
      obtain ⟨B, g, a, u, ff, rfl, hB, hG, hg, hbW⟩ := hcut
      have J2 := J.on hbW
      have hbl2 := hbl.trans (hbW.mono hbl.size)
      obtain ⟨y0, y1, y2, z0, z1, z2⟩ := three_cellsI hB
      have hgo : some g ≠ (Value.slice A9 k c9).ownBlock := fun he => by
        have := J.own.lt g he.symm
        omega
      clear J hbl hBa hBb hCa hCb HSf hg hbW z0 z1 z2 HSb
      by_cases hu : u = 0
      · rw [hu] at y2
        obtain ⟨_, HS⟩ := J2.seen (by omega)
        have HS' := Lib.hid HS
        clear HS J2 HJ hu hB hG
        go_wp2
        go_ret
        exact ⟨A9, k, c9, rfl, HS'.out, Hb.out.trans (hbl2.mono Hb.out.size)⟩
      · have hz1 : (u == 0) = false := by simpa using hu
        have HApp : Hid (∀ (W : World), Below wc.heap.size wc W → ∀ (v' : Value) (W' : World), W.grownBy W' (Value.slice A9 k c9).ownBlock → (v'.ownBlock = (Value.slice A9 k c9).ownBlock ∨ v'.ownBlock = some W.heap.size) → W'.ownsRow w0.heap.size 107 3 v' (k + 1) (xs ++ [.slice (some ⟨g, 0, none⟩) (mm + 1) (mm + 1), .int .i64 a, .int .i64 u]) → SeOr w0.heap.size mm (k + 1) v' (xs ++ [.slice (some ⟨g, 0, none⟩) (mm + 1) (mm + 1), .int .i64 a, .int .i64 u]) W' ∧ Below w0.heap.size w0 W') := Lib.hid fun W hW v' W' hg hv hn =>
          ⟨(J2.on hW).app g a u ff (hG.of_block (hW.block _ hG.lt)) hgo hg hv hn, (hbl2.trans (hW.mono hbl2.size)).grown hg (Nat.le_trans hbl2.size hW.size) (fun x hx => (J2.own.lt x hx).1)⟩
        have hO := (J2.on ((Below.refl _ wc).alloc (Nat.le_refl _) (.cells #[.slice (some ⟨g, 0, none⟩) (mm + 1) (mm + 1), .int .i64 a, .int .i64 u] 107))).own
        have hsz := hbl2.size
        clear J2 hG hu hgo HJ hB
        generalize mm + 1 = m at *
        obtain ⟨bi, hbi, hbz⟩ := Option.map_eq_some_iff.1 infoBehind
        simp only [Prod.mk.injEq] at hbz
        obtain ⟨zz1, zz2, zz3⟩ := hbz
        have hnews : ∀ j x, ([.slice (some ⟨g, 0, none⟩) m m, .int .i64 a, .int .i64 u] : List Value)[j]? = some x → (wc.alloc (.cells #[.slice (some ⟨g, 0, none⟩) m m, .int .i64 a, .int .i64 u] 107)).cell? ((⟨wc.heap.size, 0, none⟩ : Addr).add j) = some x :=
          World.news_of_block (t := 107) (fr := (0, 0)) (heap_alloc_new wc _)
        go_wp2_with (at_builtin; refine wpList_append_lies _ rfl _ _ 74 rfl w0.heap.size 107 bi _ 3 40 Tryz.underlying74 hbi zz1 zz2 zz3 rfl (by omega) (.slice A9 k c9) k xs rfl hO ⟨wc.heap.size, 0, none⟩ 1 1 _ rfl rfl hnews (by intro u hu; simp at hu; rcases hu with rfl | rfl | rfl <;> rfl) (by omega) (by unfold maxLen; omega) (by omega) (by simp; omega) _ rfl ?_; intro g5 cap5 w5 o5 gr5 at5 lt5; have L5 := HApp.out _ ((Below.refl _ wc).alloc (Nat.le_refl _) _) (.slice (some ⟨g5, 0, none⟩) (k + 1) cap5) _ gr5 (at5.elim (fun h => .inl h.symm) (fun h => .inr (congrArg some h))) o5)
        clear hO o5 gr5 at5 lt5 hnews HApp
        go_roundw
        case rel => exact ⟨k + 1, q, _, _, _, by omega, rfl, by go_num, L5.1, L5.2⟩
        case measure => simp [intOf]

end Go.Proofs.YtoejenejleocdabGreatDoor

/- Of whatever index: likely. -/
namespace Go.Proofs.YtoejenejleocdabGreatDoor
open Go.RowKit
attribute [local irreducible] Bt.pop Bt.popF

set_option maxRecDepth 100000 in
set_option maxHeartbeats 4000000 in
theorem likely_raw (A : Option Addr) (k c x m : Nat) (sg : Int) (w : World) (h : SeenR w A m k) (hng : NG w) (h2 : x ≤ m) :
    Calls Tryz.prog 49 #[.slice A k c, .int .i64 x, .int .i64 sg] w fun e w' => ∃ n d : Int, e = .returned (.agg #[.int .i64 n, .int .i64 d]) ∧ Below w.heap.size w w' := by
  have HSt : Hid (∀ j, j < k → ∃ (b o g : Nat) (a u y : Int), A = some ⟨b, o, none⟩ ∧ b < w.heap.size ∧ w.cell? ⟨b, o + j * 3, none⟩ = some (.slice (some ⟨g, 0, none⟩) (m + 1) (m + 1)) ∧ w.cell? ⟨b, o + j * 3 + 1, none⟩ = some (.int .i64 a) ∧ w.cell? ⟨b, o + j * 3 + 2, none⟩ = some (.int .i64 u) ∧ g < w.heap.size ∧ w.cell? ⟨g, x, none⟩ = some (.int .i64 y)) := Lib.hid fun j hj => by
    obtain ⟨b, o, e, hb, hc⟩ := h.row (by omega)
    obtain ⟨g, a, u, f, q1, q2, q3, q4⟩ := hc j hj
    exact ⟨b, o, g, a, u, f x, e, hb, q1, q2, q3, q4.lt, q4.cell (i := x) (by omega)⟩
  have hkl : k ≤ 3 := h.le
  have HNG := Lib.hid hng
  clear h hng
  have R0 := Bx2.new (Below.refl w.heap.size w) (.int .i64 0) (.int .i64 0) 24
  have P0 := Bx2.new' R0.old (w.heap.size + 1) (by simp) (.int .i64 1) (.int .i64 sg) 24
  have R1 := R0.on ((Below.refl _ _).alloc (Nat.le_refl _) (.cells #[.int .i64 1, .int .i64 sg] 24))
  clear R0
  go_enter Tryz.func49, Tryz.ntmps49
  go_wp2
  go_loopw [16] (fun t W => ∃ (j : Nat) (p1 p2 : Int), j ≤ k ∧ t = .int .i64 j ∧ Bx2 w w.heap.size (.int .i64 0) (.int .i64 0) W ∧ Bx2 w (w.heap.size + 1) (.int .i64 p1) (.int .i64 p2) W) (fun t _ => k - (intOf t).toNat)
  case atStart => exact ⟨0, 1, sg, Nat.zero_le _, rfl, R1, P0⟩
  case round =>
    obtain ⟨j, p1, p2, hj, rfl, R, P⟩ := hrel
    clear R1 P0
    generalize wr = V at *
    by_cases hlt : j < k
    · have hlz : (j : Int) < (k : Int) := by omega
      obtain ⟨b, o, g, a, u, y, rfl, hb, d0, d1, d2, hgl, d3⟩ := HSt.out j hlt
      clear HSt
      have n0 : V.cell? ⟨b, o + j * 3, none⟩ = some (.slice (some ⟨g, 0, none⟩) (m + 1) (m + 1)) := (R.old.cell (p := ⟨b, o + j * 3, none⟩) hb).trans d0
      have n1 : V.cell? ⟨b, o + j * 3 + 1, none⟩ = some (.int .i64 a) := (R.old.cell (p := ⟨b, o + j * 3 + 1, none⟩) hb).trans d1
      have n2 : V.cell? ⟨b, o + j * 3 + 2, none⟩ = some (.int .i64 u) := (R.old.cell (p := ⟨b, o + j * 3 + 2, none⟩) hb).trans d2
      have n3 : V.cell? ⟨g, x, none⟩ = some (.int .i64 y) := (R.old.cell (p := ⟨g, x, none⟩) hgl).trans d3
      have hbV : b < V.heap.size := Nat.lt_of_lt_of_le hb R.old.size
      have hgV : g < V.heap.size := Nat.lt_of_lt_of_le hgl R.old.size
      clear d0 d1 d2 d3 hb hgl
      go_wp2
      clear n0 n1 n2
      have R1 := R.on ((Below.refl _ V).alloc (Nat.le_refl _) (.cells #[.slice (some ⟨g, 0, none⟩) (m + 1) (m + 1), .int .i64 a, .int .i64 u] 107))
      have P1 := P.on ((Below.refl _ V).alloc (Nat.le_refl _) (.cells #[.slice (some ⟨g, 0, none⟩) (m + 1) (m + 1), .int .i64 a, .int .i64 u] 107))
      have m0 : (V.alloc (.cells #[.slice (some ⟨g, 0, none⟩) (m + 1) (m + 1), .int .i64 a, .int .i64 u] 107)).cell? ⟨V.heap.size, 0, none⟩ = some (.slice (some ⟨g, 0, none⟩) (m + 1) (m + 1)) := by simp
      have m1 : (V.alloc (.cells #[.slice (some ⟨g, 0, none⟩) (m + 1) (m + 1), .int .i64 a, .int .i64 u] 107)).cell? ⟨V.heap.size, 1, none⟩ = some (.int .i64 a) := by simp
      have m2 : (V.alloc (.cells #[.slice (some ⟨g, 0, none⟩) (m + 1) (m + 1), .int .i64 a, .int .i64 u] 107)).cell? ⟨V.heap.size, 2, none⟩ = some (.int .i64 u) := by simp
      have m3 : (V.alloc (.cells #[.slice (some ⟨g, 0, none⟩) (m + 1) (m + 1), .int .i64 a, .int .i64 u] 107)).cell? ⟨g, x, none⟩ = some (.int .i64 y) := (World.cell?_alloc_lt _ _ _ hgV).trans n3
      have hsz : (V.alloc (.cells #[.slice (some ⟨g, 0, none⟩) (m + 1) (m + 1), .int .i64 a, .int .i64 u] 107)).heap.size = V.heap.size + 1 := by simp
      have HSz := Lib.hid hsz
      clear n3 hsz R P hbV
      generalize V.alloc (.cells #[.slice (some ⟨g, 0, none⟩) (m + 1) (m + 1), .int .i64 a, .int .i64 u] 107) = V1 at *
      have hVlt : V.heap.size < V1.heap.size := by rw [HSz.out]; omega
      have hgV1 : g < V1.heap.size := by rw [HSz.out]; omega
      obtain ⟨y4, hy4⟩ : ∃ z : Int, z = IntKind.i64.wrap (4 * y) := ⟨_, rfl⟩
      obtain ⟨y3, hy3⟩ : ∃ z : Int, z = IntKind.i64.wrap (y4 - 3) := ⟨_, rfl⟩
      obtain ⟨a4, ha4⟩ : ∃ z : Int, z = IntKind.i64.wrap (4 * a) := ⟨_, rfl⟩
      obtain ⟨u3, hu3⟩ : ∃ z : Int, z = IntKind.i64.wrap (3 * u) := ⟨_, rfl⟩
      have ia4 : Ir a4 := by rw [ha4]; exact ir_wrap _
      have v1 : IntKind.i64.wrap (4 * y) = y4 := hy4.symm
      have v2 : IntKind.i64.wrap (y4 - 3) = y3 := hy3.symm
      have v3 : IntKind.i64.wrap (4 * a) = a4 := ha4.symm
      have v4 : IntKind.i64.wrap (3 * u) = u3 := hu3.symm
      clear hy4 hy3 ha4 hu3
      have hxm : (x : Int) < (m : Int) + 1 := by omega
      have hxm2 : x < m + 1 := by omega
      go_region
      go_wp2
      clear m0 m1 m2 m3 v1 v2 v3 v4
      have hng1 := HNG.out.on R1.old
      have HTm : Hid (∀ W, NG W → Calls Tryz.prog 16 #[.agg #[.int .i64 u3, .int .i64 a4], .agg #[.int .i64 p1, .int .i64 p2]] W (SomeP W)) := Lib.hid fun W hW => times_raw u3 a4 p1 p2 W hW
      have HAd : Hid (∀ t1 t2 W, NG W → Ir t2 → Calls Tryz.prog 14 #[.agg #[.int .i64 (max 0 y3), .int .i64 a4], .agg #[.int .i64 t1, .int .i64 t2]] W (SomeP W)) := Lib.hid fun t1 t2 W hW h2 => add_raw (max 0 y3) a4 t1 t2 W hW ia4 h2
      have HN2 : Hid (∀ W, Below w.heap.size w W → NG W) := Lib.hid fun W hW => HNG.out.on hW
      clear hng1
      have O1 := Bx2.new R1.old (.int .i64 (max 0 y3)) (.int .i64 a4) 24
      have hbO : Below V1.heap.size V1 (V1.alloc (.cells #[.int .i64 (max 0 y3), .int .i64 a4] 24)) := (Below.refl _ _).alloc (Nat.le_refl _) _
      have T1 := Bx2.new' O1.old (V1.heap.size + 1) (by simp) (.int .i64 u3) (.int .i64 a4) 24
      have hbT := (Below.refl (V1.alloc (.cells #[.int .i64 (max 0 y3), .int .i64 a4] 24)).heap.size (V1.alloc (.cells #[.int .i64 (max 0 y3), .int .i64 a4] 24))).alloc (Nat.le_refl _) (.cells #[.int .i64 u3, .int .i64 a4] 24)
      have O2 := (O1.on hbT).drew
      have T2 := T1.drew
      have R2 := ((R1.on hbO).on hbT).drew
      have P2 := ((P1.on hbO).on hbT).drew
      clear O1 T1 R1 P1 hbO hbT
      generalize ((V1.alloc (.cells #[.int .i64 (max 0 y3), .int .i64 a4] 24)).alloc (.cells #[.int .i64 u3, .int .i64 a4] 24)).drew = V2 at *
      have O3 := O2.drew
      have T3 := T2.drew
      have R3 := R2.drew
      have P3 := P2.drew
      refine wp_region_takes 5 [0, 1, 2] [3, 4] (fun w' => w'.cell? ⟨V1.heap.size, 0, none⟩ = some (.int .i64 (max 0 y3)) ∧ w'.cell? ⟨V1.heap.size, 1, none⟩ = some (.int .i64 a4) ∧ w'.cell? ⟨V1.heap.size + 1, 0, none⟩ = some (.int .i64 u3) ∧ w'.cell? ⟨V1.heap.size + 1, 1, none⟩ = some (.int .i64 a4) ∧ w'.cell? ⟨w.heap.size + 1, 0, none⟩ = some (.int .i64 p1) ∧ w'.cell? ⟨w.heap.size + 1, 1, none⟩ = some (.int .i64 p2)) (by kernel_rfl) (by kernel_rfl) ⟨O3.c0, O3.c1, T3.c0, T3.c1, P3.c0, P3.c1⟩ ?_
      clear O2 T2 R2 P2
      refine wpTakes_cons (v := ?_) _ at0 rfl ?_ ?_ ?_
      rotate_left 1
      · rintro W ⟨x0, x1, x2, x3, x4, x5⟩
        go_simp
        rfl
      · exact fun _ _ _ h => h
      simp only [Act.put, List.setIfInBounds_toArray, List.set_cons_zero, List.set_cons_succ]
      refine wpTakes_cons (v := ?_) _ at1 rfl ?_ ?_ ?_
      rotate_left 1
      · rintro W ⟨x0, x1, x2, x3, x4, x5⟩
        go_simp
        rfl
      · exact fun _ _ _ h => h
      simp only [Act.put, List.setIfInBounds_toArray, List.set_cons_zero, List.set_cons_succ]
      refine wpTakes_cons (v := ?_) _ at2 rfl ?_ ?_ ?_
      rotate_left 1
      · rintro W ⟨x0, x1, x2, x3, x4, x5⟩
        go_simp
        rfl
      · exact fun _ _ _ h => h
      simp only [Act.put, List.setIfInBounds_toArray, List.set_cons_zero, List.set_cons_succ]
      refine wpTakes_nil (wpCalls_cons _ at3 rfl fun K' hK' => ?_)
      go_simp
      go_at_call 16
      refine (HTm.out _ (HN2.out _ O3.old)).mono ?_
      rintro e w4 ⟨t1, t2, rfl, _, it2, _, _, hb4⟩
      have O4 := O3.on hb4
      have T4 := T3.on hb4
      have R4 := R3.on hb4
      have P4 := P3.on hb4
      refine hK'.out _ _ ⟨O4.c0, O4.c1, T4.c0, T4.c1, P4.c0, P4.c1⟩ ?_
      clear hK' O3 T3 R3 P3 hb4
      refine wpCalls_cons _ at4 rfl fun K' hK' => ?_
      go_simp
      go_at_call 14
      refine (HAd.out _ _ _ (HN2.out _ O4.old) it2).mono ?_
      rintro e w5 ⟨n1, n2, rfl, _, _, _, _, hb5⟩
      have O5 := O4.on hb5
      have T5 := T4.on hb5
      have R5 := R4.on hb5
      have P5 := P4.on hb5
      refine hK'.out _ _ ⟨O5.c0, O5.c1, T5.c0, T5.c1, P5.c0, P5.c1⟩ (wpCalls_nil ?_)
      clear hK' O4 T4 R4 P4 hb5 O5 T5 HTm HAd HN2
      simp only [List.drop_succ_cons, List.drop_zero]
      have q0 := P5.c0
      have q1 := P5.c1
      have g0 := P5.f0
      have g1 := P5.f1
      have P6 := P5.set (.int .i64 n1) (.int .i64 n2)
      have R6 := R5.other (w.heap.size + 1) (by omega) P5.ge (.int .i64 n1) (.int .i64 n2)
      clear P5 R5
      go_wp2
      clear q0 q1 g0 g1
      go_roundw
      case rel => exact ⟨j + 1, n1, n2, by omega, by go_num, R6, P6⟩
      case measure => simp [intOf]; omega
    · obtain rfl : j = k := by omega
      clear HSt
      have r0 := R.c0
      have r1 := R.c1
      have g0 := R.f0
      have g1 := R.f1
      have q0 := P.c0
      have q1 := P.c1
      have R5 := R.set (.int .i64 p1) (.int .i64 p2)
      go_wp2
      have c0 := R5.c0
      have c1 := R5.c1
      exact bodyPost_ret (v := .agg #[.int .i64 p1, .int .i64 p2]) (by simp [results, Tryz.results49, go_sem, c0, c1]) rfl ⟨p1, p2, rfl, R5.old⟩

end Go.Proofs.YtoejenejleocdabGreatDoor

/- Of whatever index: Likely and All. -/
namespace Go.Proofs.YtoejenejleocdabGreatDoor
open Go.RowKit
attribute [local irreducible] Bt.pop Bt.popF

set_option maxRecDepth 100000 in
set_option maxHeartbeats 2000000 in
theorem likelyR_no (E L S A : Option Addr) (cE cL cS nE nL M c n : Nat) (N D : Int) (x : Int) (w : World) (hg : NG w) (hm : M ≤ 17592186044416) (hx : x ≤ 0 ∨ ((M - 2 : Nat) : Int) < x) :
    Calls Tryz.prog 20 #[.agg #[.slice E nE cE, .int .i64 N, .int .i64 D, .slice L nL cL, .slice S M cS], .slice A n c, .int .i64 x] w fun e w' => ∃ n d : Int, e = .returned (.agg #[.int .i64 n, .int .i64 d]) ∧ Below w.heap.size w w' := by
  have n0 := hg.n0
  have n1 := hg.n1
  have nl := hg.lt
  have HGr := Lib.hid (fun W => greatest_raw E L S nE cE N D nL cL M cS W (by omega))
  have hb1 := (Below.refl _ w).alloc (Nat.le_refl _) (.cells #[.slice E nE cE, .int .i64 N, .int .i64 D, .slice L nL cL, .slice S M cS] 33)
  have R0 := Bx2.new' hb1 (w.heap.size + 1) (by simp) (.int .i64 0) (.int .i64 0) 24
  have G1 := (hg.on hb1).on ((Below.refl _ _).alloc (Nat.le_refl _) (.cells #[.int .i64 0, .int .i64 0] 24))
  clear hb1 hg n0 n1 nl
  by_cases h0 : x ≤ 0
  · have n0 := G1.n0
    have n1 := G1.n1
    clear G1 R0 HGr hx
    go_enter Tryz.func20, Tryz.ntmps20
    go_wp2
    refine bodyPost_ret (v := .agg #[.int .i64 0, .int .i64 1]) (by simp [results, Tryz.results20, go_sem]) rfl ⟨0, 1, rfl, ((Below.refl _ w).alloc (Nat.le_refl _) _).alloc (by simp) _⟩
  · have hx2 : ((M - 2 : Nat) : Int) < x := by omega
    have hx0 : ¬ x ≤ 0 := h0
    clear hx h0
    generalize M - 2 = mm at *
    go_enter Tryz.func20, Tryz.ntmps20
    go_wp2_with fail
    with_reducible refine (HGr.out _).mono ?_
    rintro e w1 ⟨rfl, hb1⟩
    have R1 := R0.on hb1
    have G2 := G1.on hb1
    clear HGr R0 G1 hb1
    have n0 := G2.n0
    have n1 := G2.n1
    have r0 := R1.c0
    have r1 := R1.c1
    have f0 := R1.f0
    have f1 := R1.f1
    have R2 := R1.set (.int .i64 0) (.int .i64 1)
    clear G2 R1
    go_wp2
    have c0 := R2.c0
    have c1 := R2.c1
    refine bodyPost_ret (v := .agg #[.int .i64 0, .int .i64 1]) (by simp [results, Tryz.results20, go_sem, c0, c1]) rfl ⟨0, 1, rfl, R2.old⟩

set_option maxRecDepth 100000 in
set_option maxHeartbeats 2000000 in
theorem likelyR_yes (E L S A : Option Addr) (cE cL cS nE nL M c n x : Nat) (N D : Int) (s : List Int) (w : World) (hg : NG w) (h : RC w E L S cE cL nE nL M N) (hM : M ≤ 17592186044416) (hr : IRow w w.heap.size A s) (hn : n = s.length) (hcap : n ≤ c) (hs : n ≤ 17592186044416) (h1 : 1 ≤ x) (h2 : x ≤ M - 2) :
    Calls Tryz.prog 20 #[.agg #[.slice E nE cE, .int .i64 N, .int .i64 D, .slice L nL cL, .slice S M cS], .slice A n c, .int .i64 x] w fun e w' => ∃ n d : Int, e = .returned (.agg #[.int .i64 n, .int .i64 d]) ∧ Below w.heap.size w w' := by
  have hb1 := (Below.refl _ w).alloc (Nat.le_refl _) (.cells #[.slice E nE cE, .int .i64 N, .int .i64 D, .slice L nL cL, .slice S M cS] 33)
  have J0 : CR w w.heap.size E L S cE cL cS nE nL M N D _ := CR.start h cS D (Below.refl _ _) 33
  have hb2 := (Below.refl _ (w.alloc (.cells #[.slice E nE cE, .int .i64 N, .int .i64 D, .slice L nL cL, .slice S M cS] 33))).alloc (Nat.le_refl _) (.cells #[.int .i64 0, .int .i64 0] 24)
  have J := J0.on hb2
  have hrow := (hr.on hb1).on hb2
  have R0 := Bx2.new' hb1 (w.heap.size + 1) (by simp) (.int .i64 0) (.int .i64 0) 24
  have HGr : Hid (∀ W, CR w w.heap.size E L S cE cL cS nE nL M N D W → Calls Tryz.prog 48 #[.agg #[.slice E nE cE, .int .i64 N, .int .i64 D, .slice L nL cL, .slice S M cS]] W fun e w' => e = .returned (.int .i64 ((M - 2 : Nat) : Int)) ∧ Below W.heap.size W w') := Lib.hid fun W _ => greatest_raw E L S nE cE N D nL cL M cS W (by omega)
  have HSn : Hid (∀ W, CR w w.heap.size E L S cE cL cS nE nL M N D W → IRow W W.heap.size A s → Calls Tryz.prog 50 #[.agg #[.slice E nE cE, .int .i64 N, .int .i64 D, .slice L nL cL, .slice S M cS], .slice A n c] W (SeenLR W (M - 2))) := Lib.hid fun W hW hA => by
    subst hn
    exact seenBehindLast_raw E L S A cE cL cS nE nL M c N D s W hW.rc hM hA hcap hs
  have HLk : Hid (∀ A' k' c' W, SeenR W A' (M - 2) k' → Below w.heap.size w W → Calls Tryz.prog 49 #[.slice A' k' c', .int .i64 x, .int .i64 ((M - 2 : Nat) : Int)] W fun e w' => ∃ n d : Int, e = .returned (.agg #[.int .i64 n, .int .i64 d]) ∧ Below W.heap.size W w') := Lib.hid fun A' k' c' W hW hb => likely_raw A' k' c' x (M - 2) _ W hW (hg.on hb) h2
  have hx0 : ¬ ((x : Int) ≤ 0) := by omega
  have hx1 : ¬ (((M - 2 : Nat) : Int) < (x : Int)) := by omega
  clear h hM hr hb1 J0 hb2 hn hg h1 h2
  generalize M - 2 = m at *
  go_enter Tryz.func20, Tryz.ntmps20
  go_wp2_with fail
  with_reducible refine (HGr.out _ J).mono ?_
  rintro e w1 ⟨rfl, hb1⟩
  have J1 := J.on hb1
  have R1 := R0.on hb1
  have hrow1 := hrow.on hb1
  clear J R0 hrow hb1
  go_wp2_with fail
  have J2 := J1.drew
  have R2 := R1.drew
  have hrow2 : IRow w1.drew w1.drew.heap.size A s := hrow1.on (Below.refl _ _).drew
  refine wp_region_takes 7 [0, 1, 3, 4] [2, 5, 6] (fun w' => w'.cell? ⟨w.heap.size, 0, none⟩ = some (.slice E nE cE) ∧ w'.cell? ⟨w.heap.size, 1, none⟩ = some (.int .i64 N) ∧ w'.cell? ⟨w.heap.size, 2, none⟩ = some (.int .i64 D) ∧ w'.cell? ⟨w.heap.size, 3, none⟩ = some (.slice L nL cL) ∧ w'.cell? ⟨w.heap.size, 4, none⟩ = some (.slice S M cS)) (by kernel_rfl) (by kernel_rfl) ⟨J2.c0, J2.c1, J2.c2, J2.c3, J2.c4⟩ ?_
  clear J1 R1 hrow1
  refine wpTakes_cons (v := ?_) _ at0 rfl ?_ ?_ ?_
  rotate_left 1
  · rintro W ⟨x0, x1, x2, x3, x4⟩
    go_simp
    rfl
  · exact fun _ _ _ h => h
  simp only [Act.put, List.setIfInBounds_toArray, List.set_cons_zero, List.set_cons_succ]
  refine wpTakes_cons (v := ?_) _ at1 rfl ?_ ?_ ?_
  rotate_left 1
  · rintro W ⟨x0, x1, x2, x3, x4⟩
    go_simp
    rfl
  · exact fun _ _ _ h => h
  simp only [Act.put, List.setIfInBounds_toArray, List.set_cons_zero, List.set_cons_succ]
  refine wpTakes_cons (v := ?_) _ at3 rfl ?_ ?_ ?_
  rotate_left 1
  · rintro W ⟨x0, x1, x2, x3, x4⟩
    go_simp
    rfl
  · exact fun _ _ _ h => h
  simp only [Act.put, List.setIfInBounds_toArray, List.set_cons_zero, List.set_cons_succ]
  refine wpTakes_cons (v := ?_) _ at4 rfl ?_ ?_ ?_
  rotate_left 1
  · rintro W ⟨x0, x1, x2, x3, x4⟩
    go_simp
    rfl
  · exact fun _ _ _ h => h
  simp only [Act.put, List.setIfInBounds_toArray, List.set_cons_zero, List.set_cons_succ]
  refine wpTakes_nil (wpCalls_cons _ at2 rfl fun K' hK' => ?_)
  go_simp
  go_at_call 50
  refine (HSn.out _ J2 hrow2).mono ?_
  rintro e w3 ⟨A3, k3, c3, rfl, S3, hb3⟩
  have J3 := J2.on hb3
  have R3 := R2.on hb3
  refine hK'.out _ _ ⟨J3.c0, J3.c1, J3.c2, J3.c3, J3.c4⟩ ?_
  clear hK' J2 R2 hrow2 hb3 HSn
  refine wpCalls_cons _ at5 rfl fun K' hK' => ?_
  go_simp
  go_at_call 48
  refine (HGr.out _ J3).mono ?_
  rintro e w4 ⟨rfl, hb4⟩
  have J4 := J3.on hb4
  have R4 := R3.on hb4
  have S4 := S3.on hb4
  refine hK'.out _ _ ⟨J4.c0, J4.c1, J4.c2, J4.c3, J4.c4⟩ ?_
  clear hK' J3 R3 S3 hb4 HGr
  refine wpCalls_cons _ at6 rfl fun K' hK' => ?_
  go_simp
  go_at_call 49
  refine (HLk.out _ _ _ _ S4 J4.old).mono ?_
  rintro e w5 ⟨q1, q2, rfl, hb5⟩
  have J5 := J4.on hb5
  have R5 := R4.on hb5
  refine hK'.out _ _ ⟨J5.c0, J5.c1, J5.c2, J5.c3, J5.c4⟩ (wpCalls_nil ?_)
  clear hK' J4 R4 S4 hb5 HLk J5
  simp only [List.drop_succ_cons, List.drop_zero]
  have r0 := R5.c0
  have r1 := R5.c1
  have f0 := R5.f0
  have f1 := R5.f1
  have R6 := R5.set (.int .i64 q1) (.int .i64 q2)
  clear R5
  go_wp2
  have c0 := R6.c0
  have c1 := R6.c1
  refine bodyPost_ret (v := .agg #[.int .i64 q1, .int .i64 q2]) (by simp [results, Tryz.results20, go_sem, c0, c1]) rfl ⟨q1, q2, rfl, R6.old⟩

/-- a row of whatever parts in a block -/
def PtR (g m : Nat) (W : World) : Prop := ∃ q : Nat → Int, W.rowIs g 24 (m * 2) (fun c => .int .i64 (q c))
theorem PtR.on {g m : Nat} {W W' : World} (h : PtR g m W) (hb : Below W.heap.size W W') : PtR g m W' := by
  obtain ⟨q, h⟩ := h
  exact ⟨q, h.of_block (hb.block _ h.lt)⟩
theorem PtR.at_ {g m : Nat} {W : World} (h : PtR g m W) {j : Nat} (hj : j < m) : ∃ v u : Int, W.cell? ⟨g, j * 2, none⟩ = some (.int .i64 v) ∧ W.cell? ⟨g, j * 2 + 1, none⟩ = some (.int .i64 u) := by
  obtain ⟨q, h⟩ := h
  exact ⟨_, _, h.cell (by omega), h.cell (by omega)⟩
theorem PtR.frozen {g m : Nat} {W : World} (h : PtR g m W) (i : Nat) : W.frozen? ⟨g, i, none⟩ = false := by
  obtain ⟨q, h⟩ := h
  exact h.frozen i
theorem PtR.lt {g m : Nat} {W : World} (h : PtR g m W) : g < W.heap.size := by
  obtain ⟨q, h⟩ := h
  exact h.lt
theorem PtR.set {g m : Nat} {W : World} (h : PtR g m W) (j : Nat) (a b : Int) : PtR g m ((W.setCell ⟨g, j * 2, none⟩ (.int .i64 a)).setCell ⟨g, j * 2 + 1, none⟩ (.int .i64 b)) := by
  obtain ⟨q, h⟩ := h
  refine ⟨fun c => if c = j * 2 + 1 then b else if c = j * 2 then a else q c, ((h.set _ _).set _ _).congr (fun i _ => ?_)⟩
  by_cases h1 : i = j * 2 + 1
  · simp [h1]
  · by_cases h2 : i = j * 2
    · simp [h2]
    · simp [h1, h2]
end Go.Proofs.YtoejenejleocdabGreatDoor

/- Of whatever index: Places. -/
namespace Go.Proofs.YtoejenejleocdabGreatDoor
open Go.RowKit
attribute [local irreducible] Bt.pop Bt.popF

end Go.Proofs.YtoejenejleocdabGreatDoor
