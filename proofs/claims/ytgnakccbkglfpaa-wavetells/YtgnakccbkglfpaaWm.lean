/- Words for memory: levels of bits in a row of structs. No program is named here. -/
import Derived.Test.YtgnakccbkglfpaaBw
import Derived.Test.YtgnakccbkglfpaaWb
namespace Go.Proofs.Ytgnakccbkglfpaa
open Go.RowKit

/-- three cells hold bits of a list -/
def LvAt (w : World) (B b o : Nat) (bs : List Bool) : Prop :=
  ∃ A1 c1 A2 c2, w.cell? ⟨b, o, none⟩ = some (.int .i64 bs.length) ∧ w.cell? ⟨b, o + 1, none⟩ = some (.slice A1 (bs.length / 64 + 1) c1) ∧ w.cell? ⟨b, o + 2, none⟩ = some (.slice A2 (bs.length / 64 + 1) c2) ∧ IsBits w B A1 A2 bs
theorem LvAt.below {w w' : World} {B b o : Nat} {bs : List Bool} (h : LvAt w B b o bs) (hb : Below B w w') (hlt : b < B) : LvAt w' B b o bs := by
  obtain ⟨A1, c1, A2, c2, h1, h2, h3, h4⟩ := h
  exact ⟨A1, c1, A2, c2, (hb.cell (p := ⟨b, o, none⟩) hlt).trans h1, (hb.cell (p := ⟨b, o + 1, none⟩) hlt).trans h2, (hb.cell (p := ⟨b, o + 2, none⟩) hlt).trans h3, h4.below hb⟩
theorem LvAt.more {w : World} {B B' b o : Nat} {bs : List Bool} (h : LvAt w B b o bs) (hB : B ≤ B') : LvAt w B' b o bs := by
  obtain ⟨A1, c1, A2, c2, h1, h2, h3, h4⟩ := h
  exact ⟨A1, c1, A2, c2, h1, h2, h3, h4.more hB⟩

/-- s levels in a row, k above them -/
def LV (w : World) (B : Nat) (A : Option Addr) (s k : Nat) (l : List Nat) : Prop :=
  0 < s → ∃ b o, A = some ⟨b, o, none⟩ ∧ b < B ∧ ∀ j, j < s → LvAt w B b (o + j * 3) (Wv.lbits (s - 1 - j) (2 ^ (k + j)) l)
theorem LV.below {w w' : World} {B : Nat} {A : Option Addr} {s k : Nat} {l : List Nat} (h : LV w B A s k l) (hb : Below B w w') : LV w' B A s k l := by
  intro hs
  obtain ⟨b, o, e, hlt, hc⟩ := h hs
  exact ⟨b, o, e, hlt, fun j hj => (hc j hj).below hb hlt⟩
theorem LV.more {w : World} {B B' : Nat} {A : Option Addr} {s k : Nat} {l : List Nat} (h : LV w B A s k l) (hB : B ≤ B') : LV w B' A s k l := by
  intro hs
  obtain ⟨b, o, e, hlt, hc⟩ := h hs
  exact ⟨b, o, e, by omega, fun j hj => (hc j hj).more hB⟩
theorem LV.on {w w' : World} {A : Option Addr} {s k : Nat} {l : List Nat} (h : LV w w.heap.size A s k l) (hb : Below w.heap.size w w') : LV w' w'.heap.size A s k l := (h.below hb).more hb.size
/-- all but the first -/
theorem LV.tail {w : World} {B b o s k : Nat} {l : List Nat} (h : LV w B (some ⟨b, o, none⟩) (s + 1) k l) : LV w B (some ⟨b, o + 3, none⟩) s (k + 1) l := by
  intro hs
  obtain ⟨b', o', e, hlt, hc⟩ := h (by omega)
  injection e with e
  injection e with e1 e2
  subst e1 e2
  refine ⟨b, o + 3, rfl, hlt, fun j hj => ?_⟩
  have := hc (j + 1) (by omega)
  rwa [show o + (j + 1) * 3 = o + 3 + j * 3 from by omega, show s + 1 - 1 - (j + 1) = s - 1 - j from by omega, show k + (j + 1) = k + 1 + j from by omega] at this

/-- the levels of a list of numbers below 2^d -/
structure Wave (w : World) (A : Option Addr) (d : Nat) (l : List Nat) : Prop where
  lv : LV w w.heap.size A d 0 l
  fit : ∀ n ∈ l, n < 2 ^ d
  d1 : 1 ≤ d
  d16 : d ≤ 16
  small : l.length ≤ 17592186044416
theorem Wave.on {w w' : World} {A : Option Addr} {d : Nat} {l : List Nat} (h : Wave w A d l) (hb : Below w.heap.size w w') : Wave w' A d l := ⟨h.lv.on hb, h.fit, h.d1, h.d16, h.small⟩
/-- level k: its three cells -/
theorem Wave.level {w : World} {A : Option Addr} {d : Nat} {l : List Nat} (h : Wave w A d l) : ∃ b o, A = some ⟨b, o, none⟩ ∧ b < w.heap.size ∧ ∀ k, k < d → LvAt w w.heap.size b (o + k * 3) (Wv.lbits (d - 1 - k) (2 ^ k) l) ∧ (Wv.lbits (d - 1 - k) (2 ^ k) l).length = l.length := by
  obtain ⟨b, o, e, hlt, hc⟩ := h.lv h.d1
  refine ⟨b, o, e, hlt, fun k hk => ⟨?_, ?_⟩⟩
  · have := hc k hk
    rwa [Nat.zero_add] at this
  · exact Wv.lbits_len _ _ _ (by rw [show d - 1 - k + 1 + k = d from by omega]; exact h.fit)

end Go.Proofs.Ytgnakccbkglfpaa
