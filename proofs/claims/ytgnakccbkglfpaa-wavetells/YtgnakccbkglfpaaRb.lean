/- What the reference's SameBits answers, of whatever bits. -/
import Derived.Test.YtgnakccbkglfpaaRa
namespace Go.Proofs.Ytgnakccbkglfpaa
open Go.RowKit
attribute [local irreducible] Bt.pop Bt.popF

/-- two bits are alike -/
def SameIs (n1 n2 : Int) (np1 na1 np2 na2 : Nat) (P1 P2 : Nat → Nat) (a1 a2 : Nat → Int) : Prop :=
  n1 = n2 ∧ np1 = np2 ∧ Alike na1 na2 a1 a2 ∧ ∀ i, i < np1 → P1 i = P2 i

set_option maxHeartbeats 1000000 in
theorem sameBits_any (n1 n2 : Int) (A1 B1 A2 B2 : Option Addr) (np1 cp1 na1 ca1 np2 cp2 na2 ca2 : Nat) (P1 P2 : Nat → Nat) (a1 a2 : Nat → Int) (w : World)
    (h1 : Row w w.heap.size A1 np1 (fun k => .int .u64 (P1 k))) (h2 : Row w w.heap.size B1 na1 (fun k => .int .i64 (a1 k)))
    (h3 : Row w w.heap.size A2 np2 (fun k => .int .u64 (P2 k))) (h4 : Row w w.heap.size B2 na2 (fun k => .int .i64 (a2 k))) (hn1 : np1 ≤ 9223372036854775807) (hn2 : na1 ≤ 9223372036854775807) :
    Calls Try.prog 13 #[.agg #[.int .i64 n1, .slice A1 np1 cp1, .slice B1 na1 ca1], .agg #[.int .i64 n2, .slice A2 np2 cp2, .slice B2 na2 ca2]] w fun e w' =>
      ∃ r : Bool, e = .returned (.bool r) ∧ (r = true ↔ SameIs n1 n2 np1 na1 np2 na2 P1 P2 a1 a2) ∧ Below w.heap.size w w' := by
  have hbel : ∀ o1 o2, Below w.heap.size w ((w.alloc o1).alloc o2) := fun o1 o2 => ((Below.refl _ w).alloc (Nat.le_refl _) _).alloc (by simp) _
  have Hno : ∀ r : Bool, r = false → ¬ SameIs n1 n2 np1 na1 np2 na2 P1 P2 a1 a2 → (r = true ↔ SameIs n1 n2 np1 na1 np2 na2 P1 P2 a1 a2) := fun r hr hn => ⟨(fun h => by rw [hr] at h; cases h), fun h => absurd h hn⟩
  have HN := Lib.hid Hno
  clear Hno
  by_cases e1 : n1 = n2
  · subst e1
    by_cases e2 : np1 = np2
    · subst e2
      have d1 : (n1 != n1) = false := by simp
      have d2 : ((np1 : Int) != (np1 : Int)) = false := by simp
      have hs : ∀ W : World, W = (w.alloc (.cells #[.int .i64 n1, .slice A1 np1 cp1, .slice B1 na1 ca1] 27)).alloc (.cells #[.int .i64 n1, .slice A2 np1 cp2, .slice B2 na2 ca2] 27) →
          Calls Try.prog 25 #[.slice B1 na1 ca1, .slice B2 na2 ca2] W fun e w' => ∃ r : Bool, e = .returned (.bool r) ∧ (r = true ↔ Alike na1 na2 a1 a2) ∧ ∃ q, w' = W.drewN q := by
        intro W hW
        have hB : Below w.heap.size w W := by rw [hW]; exact hbel _ _
        exact sameInts_any _ _ _ _ _ _ a1 a2 W ((h2.below hB).more hB.size) ((h4.below hB).more hB.size) hn2
      have HS := Lib.hid hs
      clear hs
      go_enter Try.func13, Try.ntmps13
      go_wp2_with fail
      refine (HS.out _ rfl).mono ?_
      rintro e w' ⟨r, rfl, hr, q, rfl⟩
      cases r
      · have Hr : ¬ Alike na1 na2 a1 a2 := fun h => by have := hr.2 h; cases this
        have HF := HN.out false rfl (fun h => Hr h.2.2.1)
        clear hr Hr HS HN
        go_wp2
        go_ret
        exact ⟨false, rfl, HF, Below.drewN (hbel _ _) _⟩
      · have Hr : Alike na1 na2 a1 a2 := hr.1 rfl
        clear hr HS
        obtain ⟨W, hW⟩ : ∃ W, W = ((w.alloc (.cells #[.int .i64 n1, .slice A1 np1 cp1, .slice B1 na1 ca1] 27)).alloc (.cells #[.int .i64 n1, .slice A2 np1 cp2, .slice B2 na2 ca2] 27)).drewN q := ⟨_, rfl⟩
        have c1 : W.cell? ⟨w.heap.size, 1, none⟩ = some (.slice A1 np1 cp1) := by rw [hW]; simp
        have c2 : W.cell? ⟨w.heap.size + 1, 1, none⟩ = some (.slice A2 np1 cp2) := by rw [hW]; simp
        have kb : Below w.heap.size w W := by rw [hW]; exact Below.drewN (hbel _ _) _
        rw [← hW]
        clear hW hbel
        go_wp2
        go_loopw [31] (fun s wr => ∃ k q : Nat, k ≤ np1 ∧ s = .int .i64 k ∧ wr = W.drewN q ∧ Hid (∀ i, i < k → P1 i = P2 i)) (fun s _ => np1 - (intOf s).toNat)
        case atStart => exact ⟨0, 0, Nat.zero_le _, rfl, rfl, (fun i hi => absurd hi (by omega) : ∀ i, i < 0 → P1 i = P2 i)⟩
        case round =>
          obtain ⟨k, q, hk, rfl, rfl, I⟩ := hrel
          by_cases hlt : k < np1
          · obtain ⟨x, o, rfl, hx, hc⟩ := h1 (by omega)
            obtain ⟨y, p, rfl, hy, hd⟩ := h3 (by omega)
            have hc1 : W.cell? ⟨x, o + k, none⟩ = some (.int .u64 (P1 k)) := (kb.cell (p := ⟨x, o + k, none⟩) hx).trans (hc k hlt)
            have hd1 : W.cell? ⟨y, p + k, none⟩ = some (.int .u64 (P2 k)) := (kb.cell (p := ⟨y, p + k, none⟩) hy).trans (hd k hlt)
            have hlz : (k : Int) < (np1 : Int) := by omega
            clear hc hd h1 h3
            by_cases he : P1 k = P2 k
            · have I2 : Hid (∀ i, i < k + 1 → P1 i = P2 i) := fun i hi => by
                rcases Nat.lt_succ_iff_lt_or_eq.1 hi with h | h
                · exact I.out i h
                · rw [h]; exact he
              have hf : (((P1 k : Nat) : Int) != ((P2 k : Nat) : Int)) = false := by simp [he]
              clear he
              go_wp2
              go_quiet (fail)
              go_wp2
              go_roundw
              case rel => exact ⟨k + 1, _, by omega, by go_num, rfl, I2⟩
              case measure => simp [intOf]; omega
            · have hf : (((P1 k : Nat) : Int) != ((P2 k : Nat) : Int)) = true := by simp; omega
              have HF := Lib.hid (HN.out false rfl (fun h => he (h.2.2.2 k hlt)))
              clear he HN
              go_wp2
              go_quiet (fail)
              go_wp2
              go_ret
              exact ⟨false, rfl, HF.out, Below.drewN (Below.drewN kb _) _⟩
          · have HA : SameIs n1 n1 np1 na1 np1 na2 P1 P2 a1 a2 := ⟨rfl, rfl, Hr, fun i hi => I.out i (by omega)⟩
            clear I Hr HN
            go_wp2
            go_ret
            exact ⟨true, rfl, ⟨fun _ => HA, fun _ => rfl⟩, Below.drewN kb _⟩
    · have d1 : (n1 != n1) = false := by simp
      have d2 : ((np1 : Int) != (np2 : Int)) = true := by simp; omega
      have HF := HN.out false rfl (fun h => e2 h.2.1)
      clear e2 HN
      go_enter Try.func13, Try.ntmps13
      go_wp2
      go_ret
      exact ⟨false, rfl, HF, hbel _ _⟩
  · have d1 : (n1 != n2) = true := by simp; exact e1
    have HF := HN.out false rfl (fun h => e1 h.1)
    clear e1 HN
    go_enter Try.func13, Try.ntmps13
    go_wp2
    go_ret
    exact ⟨false, rfl, HF, hbel _ _⟩

end Go.Proofs.Ytgnakccbkglfpaa
