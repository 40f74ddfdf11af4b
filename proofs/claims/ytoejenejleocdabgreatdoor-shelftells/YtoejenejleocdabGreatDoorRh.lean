/- A region that draws its order, whose last operations are forced behind all others, with guards: step by step an operation that yields its value while a condition S holds (or is not wanted) is taken first, or the one operation that is ready (a call, wanted or not) is run, S shown behind it. No program is named here. -/
import Derived.Test.YtoejenejleocdabGreatDoorJb
namespace Go.Proofs.YtoejenejleocdabGreatDoor
open Go Go.RowKit

section
variable {P : Program} {ops : Array Oper} {Q : Exit → Act → World → Prop} {md : Region.Mode} {S : World → Prop}

/-- what is taken (true), what is forced (false); then L -/
def wpMix (P : Program) (ops : Array Oper) (Q : Exit → Act → World → Prop) (S : World → Prop) (L : Act → World → Prop) : List (Bool × Nat) → Act → World → Prop
  | [], a, w => L a w
  | (true, i) :: r, a, w => match ops[i]? with
    | none => False
    | some o => ∃ v, YieldsIf P ops S o v a ∧ (∀ c a w, Q (.panic c) (a.put o.dst v) w → Q (.panic c) a w) ∧ wpMix P ops Q S L r (a.put o.dst v) w
  | (false, j) :: r, a, w => match ops[j]? with
    | none => False
    | some o => (Region.wanted o (yielded ops a.tmps) = true ∧ o.wp P a w (fun a' w' => S w' ∧ wpMix P ops Q S L r a' w') Q) ∨ (Region.wanted o (yielded ops a.tmps) = false ∧ wpMix P ops Q S L r (a.put o.dst undef) w)
def mixB (md : Region.Mode) (ops : Array Oper) (n : Nat) : List (Bool × Nat) → Array Bool → Bool
  | [], listed => Region.seqB md ops (ops.size - n) n listed
  | (true, i) :: r, listed => decide (i < n) && (Region.ready md ops listed).contains i && Region.free md ops listed i && mixB md ops n r (listed.setIfInBounds i true)
  | (false, j) :: r, listed => decide (j < n) && decide (Region.ready md ops listed = [j]) && mixB md ops n r (listed.setIfInBounds j true)
def mxB (md : Region.Mode) (ops : Array Oper) (n : Nat) (st : List (Bool × Nat)) : Bool :=
  Region.noSelect ops && decide (n < ops.size) && Region.sinkB md ops n && Region.chainB md ops n && decide (st.length = n) && mixB md ops n st (Array.replicate ops.size false)

theorem wpAnyK_mix {n : Nat} {tl : List Oper} (hsel : Region.noSelect ops = true) (hs : Region.sinkB md ops n = true) (hc : Region.chainB md ops n = true) (hn : n < ops.size)
    (htl : ∀ j, tl[j]? = ops[n + j]?) (hg : tl.length = ops.size - n) : ∀ (st : List (Bool × Nat)) (listed : Array Bool) (a : Act) (w : World), HeadInv md ops n listed → S w → mixB md ops n st listed = true →
    wpMix P ops Q S (wpList P ops Q tl) st a w → wpAnyK P md ops Q S n (st.length + tl.length) listed a w
  | [], listed, a, w, _, _, hB, h => by
    rw [List.length_nil, Nat.zero_add]
    exact wpAnyK_of_seq tl n listed a w (Nat.le_refl _) htl (by rw [hg]; exact hB) h
  | (true, i) :: r, listed, a, w, inv, hS, hB, h => by
    simp only [mixB, Bool.and_eq_true, decide_eq_true_eq] at hB
    obtain ⟨⟨⟨hin, hr⟩, hf⟩, hB'⟩ := hB
    have hr' : i ∈ Region.ready md ops listed := by simpa using hr
    rw [List.length_cons, show r.length + 1 + tl.length = (r.length + tl.length) + 1 by omega]
    simp only [wpMix] at h
    cases ho : ops[i]? with
    | none => simp only [ho] at h
    | some o =>
      simp only [ho] at h
      obtain ⟨v, hy, hQ, h⟩ := h
      exact wpAnyK_first ho (Region.noSelect_spec hsel) hQ hs hc hn hin _ listed a w inv (Region.free_spec ho hf) hr' hy hS (wpAnyK_mix hsel hs hc hn htl hg r _ _ w (inv.set hr' hin) hS hB' h)
  | (false, j) :: r, listed, a, w, inv, hS, hB, h => by
    simp only [mixB, Bool.and_eq_true, decide_eq_true_eq] at hB
    obtain ⟨⟨hjn, hr⟩, hB'⟩ := hB
    have hr' : j ∈ Region.ready md ops listed := by rw [hr]; simp
    rw [List.length_cons, show r.length + 1 + tl.length = (r.length + tl.length) + 1 by omega]
    refine ⟨fun h0 => (by rw [hr] at h0; cases h0), fun i hi => ?_⟩
    rw [hr] at hi
    have hij : i = j := by simpa using hi
    subst hij
    simp only [wpMix] at h
    unfold wpOp
    cases ho : ops[i]? with
    | none => simp only [ho] at h
    | some o =>
      simp only [ho] at h
      rcases h with ⟨hw, h⟩ | ⟨hw, h⟩
      · simp only [hw, if_true]
        exact .inl (Oper.wp_mono (fun a' w' ⟨h1, h2⟩ => ⟨fun _ => h1, wpAnyK_mix hsel hs hc hn htl hg r _ a' w' (inv.set hr' hjn) h1 hB' h2⟩) h)
      · simp only [hw, Bool.false_eq_true, if_false]
        exact ⟨fun _ => hS, wpAnyK_mix hsel hs hc hn htl hg r _ _ w (inv.set hr' hjn) hS hB' h⟩

/-- THE LAW -/
theorem wp_region_mix {id : Nat} {a : Act} {w : World} {l : List Oper} (n : Nat) (st : List (Bool × Nat)) (S : World → Prop) (hm : P.follows .mixedOrders = true) (hB : mxB .any l.toArray n st = true) (hS : S w.drew)
    (h : wpMix P l.toArray Q S (wpList P l.toArray Q (l.drop n)) st a w.drew) : (Code.region id l.toArray true).wp P Q a w := by
  simp only [mxB, Bool.and_eq_true, decide_eq_true_eq] at hB
  obtain ⟨⟨⟨⟨⟨hsel, hn⟩, hs⟩, hc⟩, hlen⟩, ht⟩ := hB
  have inv0 : HeadInv .any l.toArray n (Array.replicate l.toArray.size false) :=
    ⟨by simp, fun j oj _ hl => (by rw [getD_replicate_false] at hl; cases hl), fun t _ ht => getD_in (by simpa using ht) (getD_replicate_false _ _)⟩
  have H := wpAnyK_mix (md := .any) (tl := l.drop n) hsel hs hc hn (fun j => by simp [List.getElem?_drop]) (by simp) st _ a w.drew inv0 hS ht h
  refine wp_region_any hm ?_
  have e : st.length + (l.drop n).length = l.toArray.size := by
    have : n < l.length := by simpa using hn
    simp; omega
  rw [e] at H
  exact wpAny_of_K _ _ _ _ H

theorem wpMix_on {L : Act → World → Prop} {r : List (Bool × Nat)} {i : Nat} {a : Act} {w : World} (o : Oper) (ho : ops[i]? = some o) (hw : Region.wanted o (yielded ops a.tmps) = true) {v : Value} (hy : ∀ w, S w → (execOp a.eval o).run P w = .ok (.value v) w)
    (hQ : ∀ c a w, Q (.panic c) (a.put o.dst v) w → Q (.panic c) a w) (h : wpMix P ops Q S L r (a.put o.dst v) w) : wpMix P ops Q S L ((true, i) :: r) a w := by
  simp only [wpMix, ho]
  exact ⟨v, .inl ⟨hw, hy⟩, hQ, h⟩
theorem wpMix_call {L : Act → World → Prop} {r : List (Bool × Nat)} {j : Nat} {a : Act} {w : World} (o : Oper) (ho : ops[j]? = some o) (hw : Region.wanted o (yielded ops a.tmps) = true)
    (h : ∀ K : Act → World → Prop, Hid (∀ a' w', S w' → wpMix P ops Q S L r a' w' → K a' w') → o.wp P a w K Q) : wpMix P ops Q S L ((false, j) :: r) a w := by
  simp only [wpMix, ho]
  exact .inl ⟨hw, h _ (fun a' w' h1 h2 => ⟨h1, h2⟩)⟩
theorem wpMix_nil {L : Act → World → Prop} {a : Act} {w : World} (h : L a w) : wpMix P ops Q S L [] a w := h
end
end Go.Proofs.YtoejenejleocdabGreatDoor
