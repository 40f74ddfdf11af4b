/- Bits that Make has made and a function keeps in a block of its own: what stays so while other calls are made. -/
import Derived.Test.YtgnakccbkglfpaaBk
namespace Go.Proofs.Ytgnakccbkglfpaa
open Go.RowKit
attribute [local irreducible] Bt.pop Bt.popF

/-- the value of bits that Make has made of l -/
abbrev bv (n m g g2 : Nat) : Value := .agg #[.int .i64 n, .slice (some ⟨g, 0, none⟩) m m, .slice (some ⟨g2, 0, none⟩) m m]

/-- Block B holds bits of l (n of them, m parts); what was there in w0 is there still. -/
structure Inv (w0 : World) (l : List Bool) (n m B g g2 : Nat) (w : World) : Prop where
  c0 : w.cell? ⟨B, 0, none⟩ = some (.int .i64 n)
  c1 : w.cell? ⟨B, 1, none⟩ = some (.slice (some ⟨g, 0, none⟩) m m)
  c2 : w.cell? ⟨B, 2, none⟩ = some (.slice (some ⟨g2, 0, none⟩) m m)
  lt : B < w.heap.size
  made : IsBits w w.heap.size (some ⟨g, 0, none⟩) (some ⟨g2, 0, none⟩) l
  old : Below w0.heap.size w0 w
  len : n = l.length
  parts : m = l.length / 64 + 1
  small : n ≤ 140737488355328

theorem Inv.step {w0 : World} {l : List Bool} {n m B g g2 : Nat} {w w' : World} (h : Inv w0 l n m B g g2 w) (hb : Below w.heap.size w w') : Inv w0 l n m B g g2 w' :=
  ⟨(hb.cell (p := ⟨B, 0, none⟩) h.lt).trans h.c0, (hb.cell (p := ⟨B, 1, none⟩) h.lt).trans h.c1, (hb.cell (p := ⟨B, 2, none⟩) h.lt).trans h.c2, Nat.lt_of_lt_of_le h.lt hb.size,
    (h.made.below hb).more hb.size, h.old.trans (hb.mono h.old.size), h.len, h.parts, h.small⟩
theorem Inv.drew {w0 : World} {l : List Bool} {n m B g g2 : Nat} {w : World} (h : Inv w0 l n m B g g2 w) : Inv w0 l n m B g g2 w.drew := h.step (Below.refl _ _).drew
theorem Inv.drewN {w0 : World} {l : List Bool} {n m B g g2 : Nat} {w : World} (h : Inv w0 l n m B g g2 w) (q : Nat) : Inv w0 l n m B g g2 (w.drewN q) := h.step (Below.drewN (Below.refl _ _) q)
theorem Inv.alloc {w0 : World} {l : List Bool} {n m B g g2 : Nat} {w : World} (h : Inv w0 l n m B g g2 w) (o : Obj) : Inv w0 l n m B g g2 (w.alloc o) := h.step ((Below.refl _ _).alloc (Nat.le_refl _) o)
theorem Inv.start {w0 : World} {l : List Bool} {n m g g2 : Nat} {w : World} {t : TypeId} (hI : IsBits w w.heap.size (some ⟨g, 0, none⟩) (some ⟨g2, 0, none⟩) l) (hb : Below w0.heap.size w0 w) (hl : n = l.length) (hm : m = l.length / 64 + 1) (hs : n ≤ 140737488355328) :
    Inv w0 l n m w.heap.size g g2 (w.alloc (.cells #[.int .i64 n, .slice (some ⟨g, 0, none⟩) m m, .slice (some ⟨g2, 0, none⟩) m m] t)) :=
  ⟨by simp, by simp, by simp, by simp, hI.alloc _, hb.alloc hb.size _, hl, hm, hs⟩

section
variable {w0 : World} {l : List Bool} {n m B g g2 : Nat} {w : World}

/-- what the functions answer, by the list -/
def oI (l : List Bool) (i : Int) : Int := (Bt.ones (l.take i.toNat) : Nat)
def nI (l : List Bool) (i : Int) : Int := near l.length i - (Bt.ones (l.take i.toNat) : Nat)
def aI (l : List Bool) (i : Int) : Bool := decide (0 ≤ i) && l.getD i.toNat false

theorem Inv.at_ (h : Inv w0 l n m B g g2 w) (i : Int) : Calls Try.prog 15 #[bv n m g g2, .int .i64 i] w fun e w' => e = .returned (.bool (aI l i)) ∧ Inv w0 l n m B g g2 w' := by
  have h1 := h.len; have h2 := h.parts; have h3 := h.small
  subst h1 h2
  exact (at_made l i _ _ _ _ _ _ w h.made rfl (by omega)).mono fun _ _ ⟨he, hb⟩ => ⟨he, h.step hb⟩
theorem Inv.ones (h : Inv w0 l n m B g g2 w) (i : Int) : Calls Try.prog 16 #[bv n m g g2, .int .i64 i] w fun e w' => e = .returned (.int .i64 (oI l i)) ∧ Inv w0 l n m B g g2 w' := by
  have h1 := h.len; have h2 := h.parts; have h3 := h.small
  subst h1 h2
  exact (ones_made l i _ _ _ _ _ _ w h.made rfl rfl (by omega)).mono fun _ _ ⟨he, hb⟩ => ⟨he, h.step hb⟩
theorem Inv.noughts (h : Inv w0 l n m B g g2 w) (i : Int) : Calls Try.prog 18 #[bv n m g g2, .int .i64 i] w fun e w' => e = .returned (.int .i64 (nI l i)) ∧ Inv w0 l n m B g g2 w' := by
  have h1 := h.len; have h2 := h.parts; have h3 := h.small
  subst h1 h2
  exact (noughts_made l i _ _ _ _ _ _ w h.made rfl rfl (by omega)).mono fun _ _ ⟨he, hb⟩ => ⟨he, h.step hb⟩
theorem Inv.find (h : Inv w0 l n m B g g2 w) (k : Int) (hk : k ≤ 9223372036854775807) : Calls Try.prog 19 #[bv n m g g2, .int .i64 k] w fun e w' => ∃ v, e = .returned (.int .i64 v) ∧ FindIs l k v ∧ Inv w0 l n m B g g2 w' := by
  have h1 := h.len; have h2 := h.parts; have h3 := h.small
  subst h1 h2
  exact (find_made l k _ _ _ _ _ _ w h.made rfl rfl (by omega) hk).mono fun _ _ ⟨v, he, hv, hb⟩ => ⟨v, he, hv, h.step hb⟩
theorem Inv.good (h : Inv w0 l n m B g g2 w) : Calls Try.prog 21 #[bv n m g g2] w fun e w' => e = .returned (.bool true) ∧ Inv w0 l n m B g g2 w' := by
  have h1 := h.len; have h2 := h.parts; have h3 := h.small
  subst h1 h2
  exact (good_made l _ _ _ _ _ _ w h.made rfl rfl (by omega)).mono fun _ _ ⟨he, hb⟩ => ⟨he, h.step hb⟩
end

/-- one place on: one more, or one nought more -/
theorem step_facts (l : List Bool) (k : Nat) (hk : k < l.length) : aI l k = l.getD k false ∧ oI l (k + 1) = oI l k + (l.getD k false).toNat ∧ nI l (k + 1) = nI l k + 1 - (l.getD k false).toNat ∧ 0 ≤ oI l k ∧ oI l k ≤ k ∧ 0 ≤ nI l k ∧ nI l k ≤ k := by
  have e1 : ((k : Int) + 1).toNat = k + 1 := by omega
  have e2 : l.take (k + 1) = l.take k ++ [l.getD k false] := by
    rw [List.take_succ_eq_append_getElem hk, List.getD_eq_getElem?_getD, List.getElem?_eq_getElem hk]; rfl
  have e3 : Bt.ones (l.take (k + 1)) = Bt.ones (l.take k) + (l.getD k false).toNat := by rw [e2, Bt.ones_append, Bt.ones_cons, Bt.ones_nil]; omega
  have e4 : near l.length k = k := by unfold near; omega
  have e5 : near l.length (k + 1) = k + 1 := by unfold near; omega
  have e6 := Bt.ones_le (l.take k)
  rw [List.length_take] at e6
  unfold aI oI nI
  rw [e1, e3, e4, e5, Int.toNat_natCast]
  refine ⟨by simp, by omega, by omega, by omega, by omega, by omega, by omega⟩

end Go.Proofs.Ytgnakccbkglfpaa
