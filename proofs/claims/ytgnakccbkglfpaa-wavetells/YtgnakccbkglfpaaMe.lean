/- Words for memory: a slice that leads to known cells. No program is named here. -/
import Derived.WalkKit
import Derived.Deep.OwnRows
import Derived.Deep.Draws
namespace Go.Proofs.Ytgnakccbkglfpaa
open Go.RowKit

/-- A slice's address A leads to n cells, cell i holding f i, in a block below B. (Nothing is said of an empty slice.) -/
def Row (w : World) (B : Nat) (A : Option Addr) (n : Nat) (f : Nat → Value) : Prop :=
  0 < n → ∃ b o, A = some ⟨b, o, none⟩ ∧ b < B ∧ ∀ i, i < n → w.cell? ⟨b, o + i, none⟩ = some (f i)

theorem Row.keep {w w' : World} {B : Nat} {A : Option Addr} {n : Nat} {f : Nat → Value} (h : Row w B A n f) (hk : ∀ p : Addr, p.block < B → w'.cell? p = w.cell? p) : Row w' B A n f := by
  intro hn
  obtain ⟨b, o, e, hb, hc⟩ := h hn
  exact ⟨b, o, e, hb, fun i hi => (hk _ hb).trans (hc i hi)⟩
theorem Row.below {w w' : World} {B : Nat} {A : Option Addr} {n : Nat} {f : Nat → Value} (h : Row w B A n f) (hb : Below B w w') : Row w' B A n f := h.keep fun _ hp => hb.cell hp
theorem Row.more {w : World} {B B' : Nat} {A : Option Addr} {n : Nat} {f : Nat → Value} (h : Row w B A n f) (hB : B ≤ B') : Row w B' A n f := by
  intro hn
  obtain ⟨b, o, e, hb, hc⟩ := h hn
  exact ⟨b, o, e, by omega, hc⟩
theorem Row.congr {w : World} {B : Nat} {A : Option Addr} {n : Nat} {f g : Nat → Value} (h : Row w B A n f) (e : ∀ i, i < n → f i = g i) : Row w B A n g := by
  intro hn
  obtain ⟨b, o, ea, hb, hc⟩ := h hn
  exact ⟨b, o, ea, hb, fun i hi => by rw [hc i hi, e i hi]⟩
theorem Row.less {w : World} {B : Nat} {A : Option Addr} {n m : Nat} {f : Nat → Value} (h : Row w B A n f) (hm : m ≤ n) : Row w B A m f := by
  intro hn
  obtain ⟨b, o, ea, hb, hc⟩ := h (by omega)
  exact ⟨b, o, ea, hb, fun i hi => hc i (by omega)⟩
theorem Row.zero {w : World} {B : Nat} {A : Option Addr} {f : Nat → Value} : Row w B A 0 f := fun h => absurd h (by omega)
theorem Row.of_rowIs {w : World} {B b : Nat} {t : TypeId} {n : Nat} {f : Nat → Value} (h : w.rowIs b t n f) (hb : b < B) : Row w B (some ⟨b, 0, none⟩) n f :=
  fun _ => ⟨b, 0, rfl, hb, fun i hi => by rw [Nat.zero_add]; exact h.cell hi⟩
/-- the row with its own block's number, where the row is not empty -/
theorem Row.get {w : World} {B : Nat} {A : Option Addr} {n : Nat} {f : Nat → Value} (h : Row w B A n f) (hn : 0 < n) : ∃ b o, A = some ⟨b, o, none⟩ ∧ b < B ∧ ∀ i, i < n → w.cell? ⟨b, o + i, none⟩ = some (f i) := h hn

theorem Below.drewN {B : Nat} {a w : World} (h : Below B a w) (n : Nat) : Below B a (w.drewN n) := ⟨h.os, h.tape, h.output, h.size, h.block⟩

end Go.Proofs.Ytgnakccbkglfpaa
