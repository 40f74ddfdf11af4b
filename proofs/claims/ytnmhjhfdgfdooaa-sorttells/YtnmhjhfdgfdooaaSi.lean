/- sort.Ends: the ends of a list, by order. -/
import Derived.Test.YtnmhjhfdgfdooaaSg
namespace Go.Proofs.Ytnmhjhfdgfdooaa
open Go.RowKit

/-- what a pointer to a number leads to -/
def atPtr (w : World) : Value → Nat
  | .pointer (some a) => match w.cell? a with
    | some (.int _ i) => i.toNat
    | _ => 0
  | _ => 0
theorem atPtr_row {w : World} {b : Nat} {t : TypeId} {k : Nat} (h : w.rowIs b t 1 (fun _ => .int .i64 k)) : atPtr w (.pointer (some ⟨b, 0, none⟩)) = k := by
  have h0 := h.cell (i := 0) (by omega)
  simp [atPtr, h0]

/-- the memory of sort.Ends, where the order of k numbers is known: the list's box, the row of places, the box of the ranks, the ranks, the box of k -/
structure EInv (w : World) (l : List Int) (A : Option Addr) (n c B5 : Nat) (k B6 g' : Nat) (es : List Nat) (r : Nat → Nat) (W : World) : Prop where
  old : Below w.heap.size w W
  b0 : W.rowIs w.heap.size 25 1 (fun _ => .slice A n c)
  e : W.rowIs (w.heap.size + 1) 3 n (places es)
  b5 : W.rowIs B5 25 1 (fun _ => .slice (some ⟨g', 0, none⟩) n n)
  b6 : W.rowIs B6 3 1 (fun _ => .int .i64 k)
  rr : W.rowIs g' 3 n (fun i => .int .i64 (r i : Nat))
  h5 : w.heap.size + 1 < B5
  h6 : w.heap.size + 1 < B6
  hg : w.heap.size + 1 < g'
  n56 : B5 ≠ B6
  n5g : B5 ≠ g'
  n6g : B6 ≠ g'
  perm : es.Perm (List.range n)
  srt : es.Pairwise (fun a b => En.cl (En.key l k a) (En.key l k b) ≤ 0)
  rnk : En.Ranks (En.key l k) n r

theorem below_growBy {w W W' : World} {g : Nat} (h : Below w.heap.size w W) (hg : W.grownBy W' (some g)) (hlt : w.heap.size ≤ g) : Below w.heap.size w W' :=
  h.grown hg h.size (fun k hk => by injection hk with hk; omega)

theorem row_below {w W : World} {A : Option Addr} {n : Nat} {f : Nat → Value} (h : Row w w.heap.size A n f) (hb : Below w.heap.size w W) : Row W W.heap.size A n f := (h.below hb).more hb.size

/-- the first order, as sortBy wants it -/
theorem cmps1 (l : List Int) (A : Option Addr) (n c : Nat) (w W : World) (hr : Row w w.heap.size A n (fun k => .int .i64 (l.getD k 0))) (hl : n = l.length) (hn : n ≤ 17592186044416) (old : Below w.heap.size w W)
    (b0 : W.rowIs w.heap.size 25 1 (fun _ => .slice A n c)) : Cmps 42 #[.pointer (some ⟨w.heap.size, 0, none⟩)] (En.key l 1) n (w.heap.size + 1) W := by
  intro W' hW' x y hx hy
  have hb := below_growBy old hW' (by omega)
  have hc := (rowIs_growBy b0 hW' (by omega)).cell (i := 0) (by omega)
  rw [En.cl_one l x y (by omega) (by omega)]
  exact (order1_any w.heap.size A n c x y (fun k => l.getD k 0) W' hc (row_below hr hb) hx hy (by omega)).mono fun _ _ ⟨h1, q, h2⟩ => ⟨h1, q, #[], by rw [h2, Sort.grow_empty]⟩

/-- the second -/
theorem cmps2 {w : World} {l : List Int} {A : Option Addr} {n c B5 k B6 g' : Nat} {es : List Nat} {r : Nat → Nat} {W : World} (h : EInv w l A n c B5 k B6 g' es r W) (hl : n = l.length) (hn : n ≤ 17592186044416) (hk : 0 < k) (hk2 : k ≤ 17592186044416) :
    Cmps 44 #[.pointer (some ⟨B5, 0, none⟩), .pointer (some ⟨B6, 0, none⟩)] (En.key l (k + k)) n (w.heap.size + 1) W := by
  intro W' hW' x y hx hy
  have h5 := (rowIs_growBy h.b5 hW' (by have := h.h5; omega)).cell (i := 0) (by omega)
  have h6 := (rowIs_growBy h.b6 hW' (by have := h.h6; omega)).cell (i := 0) (by omega)
  have hg := rowIs_growBy h.rr hW' (by have := h.hg; omega)
  have e := En.ranks_double l k r hk (by rw [← hl]; exact h.rnk) x y (by omega) (by omega)
  rw [← hl] at e
  rw [← e]
  exact order2_any B5 B6 g' n x y k r W' h5 h6 hg.lt (fun i hi => hg.cell hi) hx hy (by omega) (by omega)

/-- a row whose cells hold their own places -/
theorem places_range (n i : Nat) (h : i < n) : places (List.range n) i = .int .i64 (i : Int) := by
  simp [places, h]

theorem rowIs_alloc1 (w : World) (v : Value) (t : TypeId) : (w.alloc (.cells #[v] t)).rowIs w.heap.size t 1 (fun _ => v) :=
  World.rowIs_alloc w #[v] t (fun _ => v) (fun i hi => by
    match i, hi with
    | 0, _ => rfl)
theorem rowIs_set1 {w : World} {b : Nat} {t : TypeId} {v : Value} (h : w.rowIs b t 1 (fun _ => v)) (u : Value) : (w.setCell ⟨b, 0, none⟩ u).rowIs b t 1 (fun _ => u) :=
  (h.set 0 u).congr (fun i hi => by rw [if_pos (by omega)])
theorem size_setCell' (w : World) (a : Addr) (v : Value) : (w.setCell a v).heap.size = w.heap.size := by simp

/-- the two boxes made -/
def box2 (w1 : World) (v : Value) : World := (w1.alloc (.cells #[v] 25)).alloc (.cells #[.int .i64 1] 3)
theorem EInv.start {w : World} {l : List Int} {A : Option Addr} {n c g' : Nat} {es : List Nat} {r : Nat → Nat} {w1 : World} (old : Below w.heap.size w w1) (b0 : w1.rowIs w.heap.size 25 1 (fun _ => .slice A n c))
    (e : w1.rowIs (w.heap.size + 1) 3 n (places es)) (rr : w1.rowIs g' 3 n (fun i => .int .i64 (r i : Nat))) (hg : w.heap.size + 1 < g') (perm : es.Perm (List.range n))
    (srt : es.Pairwise (fun a b => En.cl (En.key l 1 a) (En.key l 1 b) ≤ 0)) (rnk : En.Ranks (En.key l 1) n r) : EInv w l A n c w1.heap.size 1 (w1.heap.size + 1) g' es r (box2 w1 (.slice (some ⟨g', 0, none⟩) n n)) := by
  have h0 := e.lt
  have h1 := rr.lt
  have keep : ∀ {b : Nat} {t : TypeId} {m : Nat} {f : Nat → Value}, w1.rowIs b t m f → (box2 w1 (.slice (some ⟨g', 0, none⟩) n n)).rowIs b t m f := fun {b t m f} h => by
    exact (h.alloc _).alloc _
  refine ⟨?_, keep b0, keep e, ?_, ?_, keep rr, by omega, by omega, hg, by omega, by omega, by omega, perm, srt, rnk⟩
  · unfold box2
    exact (old.alloc old.size _).alloc (by simp; have := old.size; omega) _
  · unfold box2
    exact (rowIs_alloc1 w1 _ _).alloc _
  · unfold box2
    have := rowIs_alloc1 (w1.alloc (.cells #[.slice (some ⟨g', 0, none⟩) n n] 25)) (.int .i64 1) 3
    rw [World.size_alloc] at this
    exact this

/-- the boxes behind a round -/
def box3 (w2 : World) (B5 : Nat) (v : Value) (k : Int) : World := (w2.setCell ⟨B5, 0, none⟩ v).alloc (.cells #[.int .i64 (k * 2)] 3)
theorem EInv.step {w : World} {l : List Int} {A : Option Addr} {n c B5 k B6 g' : Nat} {es : List Nat} {r : Nat → Nat} {W : World} (h : EInv w l A n c B5 k B6 g' es r W) {w2 : World} (hgb : W.grownBy w2 (some (w.heap.size + 1)))
    {g2 : Nat} {es2 : List Nat} {r2 : Nat → Nat} (hg2 : W.heap.size ≤ g2) (perm : es2.Perm (List.range n)) (srt : es2.Pairwise (fun a b => En.cl (En.key l (k + k) a) (En.key l (k + k) b) ≤ 0)) (rnk : En.Ranks (En.key l (k + k)) n r2)
    (e : w2.rowIs (w.heap.size + 1) 3 n (places es2)) (rr : w2.rowIs g2 3 n (fun i => .int .i64 (r2 i : Nat))) : EInv w l A n c B5 (k + k) w2.heap.size g2 es2 r2 (box3 w2 B5 (.slice (some ⟨g2, 0, none⟩) n n) (k : Int)) := by
  have h5 := h.b5.lt
  have h05 := h.h5
  have hsz := hgb.size
  have hg2' := rr.lt
  have he := h.e.lt
  have keep : ∀ {b : Nat} {t : TypeId} {m : Nat} {f : Nat → Value}, b ≠ B5 → w2.rowIs b t m f → (box3 w2 B5 (.slice (some ⟨g2, 0, none⟩) n n) (k : Int)).rowIs b t m f := fun {b t m f} hne h => by
    exact (h.setOther (a := ⟨B5, 0, none⟩) hne _).alloc _
  have b5 := rowIs_growBy h.b5 hgb (by omega)
  have old := below_growBy h.old hgb (by omega)
  refine ⟨?_, keep (by omega) (rowIs_growBy h.b0 hgb (by omega)), keep (by omega) e, ?_, ?_, keep (by omega) rr, h05, by omega, by omega, by omega, by omega, by omega, perm, srt, rnk⟩
  · unfold box3
    have := old.size
    exact (old.setCell (by simp; omega) _).alloc (by simp; omega) _
  · unfold box3
    exact (rowIs_set1 b5 _).alloc _
  · unfold box3
    have := rowIs_alloc1 (w2.setCell ⟨B5, 0, none⟩ (.slice (some ⟨g2, 0, none⟩) n n)) (.int .i64 ((k : Int) * 2)) 3
    rw [size_setCell'] at this
    rw [show ((k + k : Nat) : Int) = (k : Int) * 2 from by omega]
    exact this

end Go.Proofs.Ytnmhjhfdgfdooaa
