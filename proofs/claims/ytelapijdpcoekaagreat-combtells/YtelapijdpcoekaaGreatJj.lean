import Derived.Test.YtelapijdpcoekaaGreatJa
import Derived.Test.YtelapijdpcoekaaGreatJb
import Derived.Deep.RegionLaw
import Derived.Deep.CutRange
/- What the reference's SameInts answers. -/
namespace Go.Proofs.YtelapijdpcoekaaGreat
open Go.RowKit

set_option maxHeartbeats 1000000 in
theorem sameInts_any (A B : Option Addr) (n cn m cm : Nat) (a b : Nat → Int) (w : World) (ha : Row w w.heap.size A n (fun k => .int .i64 (a k))) (hb : Row w w.heap.size B m (fun k => .int .i64 (b k))) (hn : n ≤ 9223372036854775807) :
    Calls Tryz.prog 13 #[.slice A n cn, .slice B m cm] w fun e w' => ∃ r : Bool, e = .returned (.bool r) ∧ (r = true ↔ Alike n m a b) ∧ ∃ q, w' = w.drewN q := by
  by_cases hnm : n = m
  · subst hnm
    have hne : ((n : Int) != (n : Int)) = false := by simp
    go_enter Tryz.func13, Tryz.ntmps13
    go_wp2
    go_loopw [13] (fun s wr => ∃ k q : Nat, k ≤ n ∧ s = .int .i64 k ∧ wr = w.drewN q ∧ Hid (∀ i, i < k → a i = b i)) (fun s _ => n - (intOf s).toNat)
    case atStart => exact ⟨0, 0, Nat.zero_le _, rfl, rfl, (fun i hi => absurd hi (by omega) : ∀ i, i < 0 → a i = b i)⟩
    case round =>
      obtain ⟨k, q, hk, rfl, rfl, I⟩ := hrel
      by_cases hlt : k < n
      · obtain ⟨x, o, rfl, hx, hc⟩ := ha (by omega)
        obtain ⟨y, p, rfl, hy, hd⟩ := hb (by omega)
        have hc1 := hc k hlt
        have hd1 := hd k hlt
        have hlz : (k : Int) < (n : Int) := by omega
        clear hc hd ha hb
        by_cases he : a k = b k
        · have I2 : Hid (∀ i, i < k + 1 → a i = b i) := fun i hi => by
            rcases Nat.lt_succ_iff_lt_or_eq.1 hi with h | h
            · exact I.out i h
            · rw [h]; exact he
          have hf : (a k != b k) = false := by simp [he]
          clear he
          go_wp2
          go_quiet (fail)
          go_wp2
          go_roundw
          case rel => exact ⟨k + 1, _, by omega, by go_num, rfl, I2⟩
          case measure => simp [intOf]; omega
        · have hf : (a k != b k) = true := by simp [he]
          have HE := Lib.hid he
          clear he
          go_wp2
          go_quiet (fail)
          go_wp2
          go_ret
          exact ⟨false, rfl, ⟨(fun h => by cases h), fun h => absurd (h.2 k hlt) HE.out⟩, _, World.drewN_drewN _ _ _⟩
      · have hkn : k = n := by omega
        have HA : Alike n n a b := ⟨rfl, fun i hi => I.out i (by omega)⟩
        clear I
        go_wp2
        go_ret
        exact ⟨true, rfl, ⟨fun _ => HA, fun _ => rfl⟩, _, rfl⟩
  · have hne : ((n : Int) != (m : Int)) = true := by simp; omega
    have HE := Lib.hid hnm
    clear hnm
    go_enter Tryz.func13, Tryz.ntmps13
    go_wp2
    go_ret
    exact ⟨false, rfl, ⟨(fun h => by cases h), fun h => absurd h.1 HE.out⟩, 0, rfl⟩

end Go.Proofs.YtelapijdpcoekaaGreat

/- SameInts of the reference, of whatever two lists. -/
namespace Go.Proofs.YtelapijdpcoekaaGreat
open Go.RowKit

theorem sameInts_ints (A B : Option Addr) (cn cm : Nat) (a b : List Int) (w : World) (ha : IRow w w.heap.size A a) (hb : IRow w w.heap.size B b) (hn : a.length ≤ 9223372036854775807) :
    Calls Tryz.prog 13 #[.slice A a.length cn, .slice B b.length cm] w fun e w' => e = .returned (.bool (decide (a = b))) ∧ ∃ q, w' = w.drewN q :=
  (sameInts_any A B a.length cn b.length cm (fun k => a.getD k 0) (fun k => b.getD k 0) w ha hb hn).mono fun e w' ⟨r, h1, h2, h3⟩ => ⟨by
    rw [h1]
    congr 1
    congr 1
    rw [Bool.eq_iff_iff, decide_eq_true_eq, h2]
    constructor
    · rintro ⟨e1, e2⟩
      apply List.ext_getElem e1
      intro i hi hj
      have := e2 i hi
      simpa [hi, hj] using this
    · rintro rfl
      exact ⟨rfl, fun _ _ => rfl⟩, h3⟩

end Go.Proofs.YtelapijdpcoekaaGreat

/- What the reference's OnesOf, PlaceOf and SameBits answer. -/
namespace Go.Proofs.YtelapijdpcoekaaGreat
open Go.RowKit
attribute [local irreducible] Bt.pop Bt.popF

theorem ones_step (l : List Bool) (k : Nat) (hk : k < l.length) : Bt.ones (l.take (k + 1)) = Bt.ones (l.take k) + (l.getD k false).toNat := by
  have e2 : l.take (k + 1) = l.take k ++ [l.getD k false] := by
    rw [List.take_succ_eq_append_getElem hk, List.getD_eq_getElem?_getD, List.getElem?_eq_getElem hk]; rfl
  rw [e2, Bt.ones_append, Bt.ones_cons, Bt.ones_nil]; omega
/-- ones at places below i, of the first k -/
def oK (l : List Bool) (i : Int) (k : Nat) : Nat := Bt.ones (l.take (min k i.toNat))
theorem oK_le (l : List Bool) (i : Int) (k : Nat) : oK l i k ≤ k := by
  have h := Bt.ones_le (l.take (min k i.toNat))
  rw [List.length_take] at h
  unfold oK; omega
theorem oK_zero (l : List Bool) (i : Int) : oK l i 0 = 0 := by unfold oK; rw [Nat.zero_min]; rfl
theorem oK_yes (l : List Bool) (i : Int) (k : Nat) (hk : k < l.length) (hx : l.getD k false = true) (hi : (k : Int) < i) : oK l i (k + 1) = oK l i k + 1 := by
  unfold oK
  rw [Nat.min_eq_left (by omega), Nat.min_eq_left (by omega), ones_step l k hk, hx]; rfl
theorem oK_no (l : List Bool) (i : Int) (k : Nat) (hk : k < l.length) (h : l.getD k false = false ∨ ¬ (k : Int) < i) : oK l i (k + 1) = oK l i k := by
  unfold oK
  by_cases hi : (k : Int) < i
  · rw [Nat.min_eq_left (by omega), Nat.min_eq_left (by omega), ones_step l k hk]
    rcases h with h | h
    · rw [h]; rfl
    · exact absurd hi h
  · rw [show min (k + 1) i.toNat = min k i.toNat from by omega]
theorem oK_all (l : List Bool) (i : Int) : (oK l i l.length : Int) = oI l i := by
  unfold oK oI
  have : l.take (min l.length i.toNat) = l.take i.toNat := by rw [List.take_eq_take_iff]; omega
  rw [this]

theorem FindIs.one (l : List Bool) (k v v' : Int) (h : FindIs l k v) (h' : FindIs l k v') : v = v' := by
  have key : ∀ i j : Nat, i < j → l.getD i false = true → Bt.ones (l.take i) + 1 ≤ Bt.ones (l.take j) := by
    intro i j hij hx
    have hi : i < l.length := by
      rcases Nat.lt_or_ge i l.length with h1 | h1
      · exact h1
      · rw [List.getD_eq_getElem?_getD, List.getElem?_eq_none h1] at hx; cases hx
    have e1 := ones_step l i hi
    rw [hx] at e1
    have e2 : l.take j = l.take (i + 1) ++ (l.drop (i + 1)).take (j - (i + 1)) := by rw [← List.take_add]; congr 1; omega
    rw [e2, Bt.ones_append, e1]
    show _ + 1 ≤ _ + 1 + _
    omega
  have top : ∀ i : Nat, l.getD i false = true → Bt.ones (l.take i) + 1 ≤ Bt.ones l := by
    intro i hx
    have hi : i < l.length := by
      rcases Nat.lt_or_ge i l.length with h1 | h1
      · exact h1
      · rw [List.getD_eq_getElem?_getD, List.getElem?_eq_none h1] at hx; cases hx
    have := key i l.length hi hx
    rwa [List.take_length] at this
  rcases h with ⟨rfl, h⟩ | ⟨i, rfl, h1, h2⟩ <;> rcases h' with ⟨rfl, h'⟩ | ⟨j, rfl, h3, h4⟩
  · rfl
  · have := top j h3; omega
  · have := top i h1; omega
  · rcases Nat.lt_trichotomy i j with hh | hh | hh
    · have := key i j hh h1; omega
    · rw [hh]
    · have := key j i hh h3; omega

end Go.Proofs.YtelapijdpcoekaaGreat

/- What the reference's SameBits answers, of whatever bits. -/
namespace Go.Proofs.YtelapijdpcoekaaGreat
open Go.RowKit
attribute [local irreducible] Bt.pop Bt.popF

/-- two bits are alike -/
def SameIs (n1 n2 : Int) (np1 na1 np2 na2 : Nat) (P1 P2 : Nat → Nat) (a1 a2 : Nat → Int) : Prop :=
  n1 = n2 ∧ np1 = np2 ∧ Alike na1 na2 a1 a2 ∧ ∀ i, i < np1 → P1 i = P2 i

set_option maxHeartbeats 1000000 in
theorem sameBits_any (n1 n2 : Int) (A1 B1 A2 B2 : Option Addr) (np1 cp1 na1 ca1 np2 cp2 na2 ca2 : Nat) (P1 P2 : Nat → Nat) (a1 a2 : Nat → Int) (w : World)
    (h1 : Row w w.heap.size A1 np1 (fun k => .int .u64 (P1 k))) (h2 : Row w w.heap.size B1 na1 (fun k => .int .i64 (a1 k)))
    (h3 : Row w w.heap.size A2 np2 (fun k => .int .u64 (P2 k))) (h4 : Row w w.heap.size B2 na2 (fun k => .int .i64 (a2 k))) (hn1 : np1 ≤ 9223372036854775807) (hn2 : na1 ≤ 9223372036854775807) :
    Calls Tryz.prog 60 #[.agg #[.int .i64 n1, .slice A1 np1 cp1, .slice B1 na1 ca1], .agg #[.int .i64 n2, .slice A2 np2 cp2, .slice B2 na2 ca2]] w fun e w' =>
      ∃ r : Bool, e = .returned (.bool r) ∧ (r = true ↔ SameIs n1 n2 np1 na1 np2 na2 P1 P2 a1 a2) ∧ Below w.heap.size w w' := by
  have hbel : ∀ o1 o2, Below w.heap.size w ((w.alloc o1).alloc o2) := fun o1 o2 => ((Below.refl _ w).alloc (Nat.le_refl _) _).alloc (by simp) _
  have Hno : ∀ r : Bool, r = false → ¬ SameIs n1 n2 np1 na1 np2 na2 P1 P2 a1 a2 → (r = true ↔ SameIs n1 n2 np1 na1 np2 na2 P1 P2 a1 a2) := fun r hr hn => ⟨(fun h => by rw [hr] at h; cases h), fun h => absurd h hn⟩
  have HN := Lib.hid Hno
  clear Hno
  by_cases e1 : n1 = n2
  · subst e1
    by_cases e2 : np1 = np2
    · subst e2
      have d1 : (n1 != n1) = false := by simp
      have d2 : ((np1 : Int) != (np1 : Int)) = false := by simp
      have hs : ∀ W : World, W = (w.alloc (.cells #[.int .i64 n1, .slice A1 np1 cp1, .slice B1 na1 ca1] 68)).alloc (.cells #[.int .i64 n1, .slice A2 np1 cp2, .slice B2 na2 ca2] 68) →
          Calls Tryz.prog 13 #[.slice B1 na1 ca1, .slice B2 na2 ca2] W fun e w' => ∃ r : Bool, e = .returned (.bool r) ∧ (r = true ↔ Alike na1 na2 a1 a2) ∧ ∃ q, w' = W.drewN q := by
        intro W hW
        have hB : Below w.heap.size w W := by rw [hW]; exact hbel _ _
        exact sameInts_any _ _ _ _ _ _ a1 a2 W ((h2.below hB).more hB.size) ((h4.below hB).more hB.size) hn2
      have HS := Lib.hid hs
      clear hs
      go_enter Tryz.func60, Tryz.ntmps60
      go_wp2_with fail
      refine (HS.out _ rfl).mono ?_
      rintro e w' ⟨r, rfl, hr, q, rfl⟩
      cases r
      · have Hr : ¬ Alike na1 na2 a1 a2 := fun h => by have := hr.2 h; cases this
        have HF := HN.out false rfl (fun h => Hr h.2.2.1)
        clear hr Hr HS HN
        go_wp2
        go_ret
        exact ⟨false, rfl, HF, Below.drewN (hbel _ _) _⟩
      · have Hr : Alike na1 na2 a1 a2 := hr.1 rfl
        clear hr HS
        obtain ⟨W, hW⟩ : ∃ W, W = ((w.alloc (.cells #[.int .i64 n1, .slice A1 np1 cp1, .slice B1 na1 ca1] 68)).alloc (.cells #[.int .i64 n1, .slice A2 np1 cp2, .slice B2 na2 ca2] 68)).drewN q := ⟨_, rfl⟩
        have c1 : W.cell? ⟨w.heap.size, 1, none⟩ = some (.slice A1 np1 cp1) := by rw [hW]; simp
        have c2 : W.cell? ⟨w.heap.size + 1, 1, none⟩ = some (.slice A2 np1 cp2) := by rw [hW]; simp
        have kb : Below w.heap.size w W := by rw [hW]; exact Below.drewN (hbel _ _) _
        rw [← hW]
        clear hW hbel
        go_wp2
        go_loopw [31] (fun s wr => ∃ k q : Nat, k ≤ np1 ∧ s = .int .i64 k ∧ wr = W.drewN q ∧ Hid (∀ i, i < k → P1 i = P2 i)) (fun s _ => np1 - (intOf s).toNat)
        case atStart => exact ⟨0, 0, Nat.zero_le _, rfl, rfl, (fun i hi => absurd hi (by omega) : ∀ i, i < 0 → P1 i = P2 i)⟩
        case round =>
          obtain ⟨k, q, hk, rfl, rfl, I⟩ := hrel
          by_cases hlt : k < np1
          · obtain ⟨x, o, rfl, hx, hc⟩ := h1 (by omega)
            obtain ⟨y, p, rfl, hy, hd⟩ := h3 (by omega)
            have hc1 : W.cell? ⟨x, o + k, none⟩ = some (.int .u64 (P1 k)) := (kb.cell (p := ⟨x, o + k, none⟩) hx).trans (hc k hlt)
            have hd1 : W.cell? ⟨y, p + k, none⟩ = some (.int .u64 (P2 k)) := (kb.cell (p := ⟨y, p + k, none⟩) hy).trans (hd k hlt)
            have hlz : (k : Int) < (np1 : Int) := by omega
            clear hc hd h1 h3
            by_cases he : P1 k = P2 k
            · have I2 : Hid (∀ i, i < k + 1 → P1 i = P2 i) := fun i hi => by
                rcases Nat.lt_succ_iff_lt_or_eq.1 hi with h | h
                · exact I.out i h
                · rw [h]; exact he
              have hf : (((P1 k : Nat) : Int) != ((P2 k : Nat) : Int)) = false := by simp [he]
              clear he
              go_wp2
              go_quiet (fail)
              go_wp2
              go_roundw
              case rel => exact ⟨k + 1, _, by omega, by go_num, rfl, I2⟩
              case measure => simp [intOf]; omega
            · have hf : (((P1 k : Nat) : Int) != ((P2 k : Nat) : Int)) = true := by simp; omega
              have HF := Lib.hid (HN.out false rfl (fun h => he (h.2.2.2 k hlt)))
              clear he HN
              go_wp2
              go_quiet (fail)
              go_wp2
              go_ret
              exact ⟨false, rfl, HF.out, Below.drewN (Below.drewN kb _) _⟩
          · have HA : SameIs n1 n1 np1 na1 np1 na2 P1 P2 a1 a2 := ⟨rfl, rfl, Hr, fun i hi => I.out i (by omega)⟩
            clear I Hr HN
            go_wp2
            go_ret
            exact ⟨true, rfl, ⟨fun _ => HA, fun _ => rfl⟩, Below.drewN kb _⟩
    · have d1 : (n1 != n1) = false := by simp
      have d2 : ((np1 : Int) != (np2 : Int)) = true := by simp; omega
      have HF := HN.out false rfl (fun h => e2 h.2.1)
      clear e2 HN
      go_enter Tryz.func60, Tryz.ntmps60
      go_wp2
      go_ret
      exact ⟨false, rfl, HF, hbel _ _⟩
  · have d1 : (n1 != n2) = true := by simp; exact e1
    have HF := HN.out false rfl (fun h => e1 h.1)
    clear e1 HN
    go_enter Tryz.func60, Tryz.ntmps60
    go_wp2
    go_ret
    exact ⟨false, rfl, HF, hbel _ _⟩

end Go.Proofs.YtelapijdpcoekaaGreat

/- What the reference's BitsOf makes: the same as Make. -/
namespace Go.Proofs.YtelapijdpcoekaaGreat
open Go.RowKit
attribute [local irreducible] Bt.pop Bt.popF

/-- the parts, and the ones ahead, of what has been read so far -/
def xsP (l : List Bool) (k m : Nat) : List Value := (List.range m).map fun p => .int .u64 (Bt.part (l.take k) p)
def xsA (l : List Bool) (m : Nat) : List Value := (List.range m).map fun p => .int .i64 (Bt.ahd l p)
/-- the three cells of the bits in the making -/
def boxF (n : Nat) (pv av : Value) : Nat → Value := fun j => if j = 0 then .int .i64 n else if j = 1 then pv else av

structure BO (w : World) (l : List Bool) (n k m : Nat) (pv av : Value) (wr : World) : Prop where
  box : wr.rowIs (w.heap.size + 1) 68 3 (boxF n pv av)
  res : wr.rowIs w.heap.size 68 3 zeroBits
  own1 : wr.ownsRow (w.heap.size + 2) 90 1 pv m (xsP l k m)
  own2 : wr.ownsRow (w.heap.size + 2) 3 1 av m (xsA l m)
  old : Below w.heap.size w wr

theorem part_done (l : List Bool) (k : Nat) (hk : k % 64 = 0) : Bt.part (l.take k) (k / 64) = 0 := by
  unfold Bt.part Bt.seg
  rw [List.drop_eq_nil_of_le (by rw [List.length_take]; omega)]; rfl
theorem xsP_more (l : List Bool) (k : Nat) (hk : k % 64 = 0) : xsP l k (k / 64) ++ [.int .u64 0] = xsP l k (k / 64 + 1) := by
  unfold xsP
  rw [List.range_succ, List.map_append]
  simp [part_done l k hk]
theorem xsA_more (l : List Bool) (k : Nat) (hk : k % 64 = 0) : xsA l (k / 64) ++ [.int .i64 (Bt.ones (l.take k))] = xsA l (k / 64 + 1) := by
  unfold xsA
  rw [List.range_succ, List.map_append]
  have : Bt.ahd l (k / 64) = Bt.ones (l.take k) := by unfold Bt.ahd; rw [show 64 * (k / 64) = k from by omega]
  simp [this]
theorem xsP_same (l : List Bool) (k m : Nat) (hk : k < l.length) (hx : l.getD k false = false) : xsP l (k + 1) m = xsP l k m := by
  unfold xsP
  apply List.map_congr_left
  intro p _
  rw [Bt.part_take_succ l k p hk, hx]; simp
theorem xsP_past (l : List Bool) (k m : Nat) (hk : l.length ≤ k) : xsP l (k + 1) m = xsP l k m := by
  unfold xsP
  rw [List.take_of_length_le hk, List.take_of_length_le (by omega)]
theorem part_room (l : List Bool) (k : Nat) (hk : k ≤ l.length) : Bt.part (l.take k) (k / 64) < 2 ^ (k % 64) := by
  unfold Bt.part
  have h := Bt.val_lt (Bt.seg (l.take k) (k / 64))
  have e : (Bt.seg (l.take k) (k / 64)).length = k % 64 := by simp [Bt.seg]; omega
  rwa [e] at h
theorem xsP_set (l : List Bool) (k m : Nat) (hk : k < l.length) (hx : l.getD k false = true) :
    (xsP l k m).set (k / 64) (.int .u64 ((Bt.part (l.take k) (k / 64) + 2 ^ (k % 64) : Nat) : Int)) = xsP l (k + 1) m := by
  have hor : Bt.part (l.take k) (k / 64) ||| 2 ^ (k % 64) = Bt.part (l.take k) (k / 64) + 2 ^ (k % 64) := by
    have h := Nat.two_pow_add_eq_or_of_lt (part_room l k (by omega)) 1
    simp only [Nat.mul_one] at h
    rw [Nat.or_comm, ← h, Nat.add_comm]
  unfold xsP
  apply List.ext_getElem?
  intro p
  rw [List.getElem?_set]
  by_cases hp : p < m
  · by_cases he : k / 64 = p
    · subst he
      rw [if_pos rfl]
      simp only [List.length_map, List.length_range, hp, if_true, List.getElem?_map, List.getElem?_range hp, Option.map_some]
      rw [Bt.part_take_succ l k _ hk, if_pos ⟨rfl, hx⟩, hor]
    · rw [if_neg he]
      simp only [List.getElem?_map, List.getElem?_range hp, Option.map_some]
      rw [Bt.part_take_succ l k p hk, if_neg (fun h => he h.1.symm)]
  · simp only [List.getElem?_map, List.getElem?_eq_none (show (List.range m).length ≤ p by simp; omega), Option.map_none]
    by_cases he : k / 64 = p
    · rw [if_pos he]; simp; omega
    · rw [if_neg he]

theorem add_bit (p k : Nat) (hp : p < 2 ^ k) (hk : k < 64) : IntKind.u64.wrap ((p : Int) + IntKind.u64.wrap (2 ^ k)) = ((p + 2 ^ k : Nat) : Int) := by
  have h3 : 2 ^ k ≤ 2 ^ 63 := Nat.pow_le_pow_right (by omega) (by omega)
  have : (2 : Int) ^ k = ((2 ^ k : Nat) : Int) := by simp
  rw [this, IntKind.wrap_u64, IntKind.wrap_u64]
  generalize (2 : Nat) ^ k = m at h3 hp ⊢
  omega

theorem BO.start (w : World) (l : List Bool) (n : Nat) :
    BO w l n 0 ((0 + 63) / 64) (.slice none 0 0) (.slice none 0 0) ((w.alloc (.cells #[.int .i64 0, .slice none 0 0, .slice none 0 0] 68)).alloc (.cells #[.int .i64 n, .slice none 0 0, .slice none 0 0] 68)) := by
  have h1 := World.rowIs_alloc (w.alloc (.cells #[.int .i64 0, .slice none 0 0, .slice none 0 0] 68)) #[.int .i64 n, .slice none 0 0, .slice none 0 0] 68 (boxF n (.slice none 0 0) (.slice none 0 0)) (fun i hi => by
    match i, hi with
    | 0, _ => rfl
    | 1, _ => rfl
    | 2, _ => rfl)
  have h2 := World.rowIs_alloc w #[.int .i64 0, .slice none 0 0, .slice none 0 0] 68 zeroBits (fun i hi => by
    match i, hi with
    | 0, _ => rfl
    | 1, _ => rfl
    | 2, _ => rfl)
  rw [World.size_alloc] at h1
  exact ⟨h1, h2.alloc _, World.ownsRow_nil _ _ _ _, World.ownsRow_nil _ _ _ _, ((Below.refl _ _).alloc (Nat.le_refl _) _).alloc (by simp) _⟩
theorem BO.dull {w : World} {l : List Bool} {n k m : Nat} {pv av : Value} {wr : World} (I : BO w l n k m pv av wr) (hk : k < l.length) (hx : l.getD k false = false) (hm : m = (k + 1 + 63) / 64 := by omega) : BO w l n (k + 1) ((k + 1 + 63) / 64) pv av wr := by
  subst hm
  exact ⟨I.box, I.res, by rw [xsP_same l k _ hk hx]; exact I.own1, I.own2, I.old⟩
theorem BO.past {w : World} {l : List Bool} {n k m : Nat} {pv av : Value} {wr : World} (I : BO w l n k m pv av wr) (hk : l.length ≤ k) (hm : m = (k + 1 + 63) / 64 := by omega) : BO w l n (k + 1) ((k + 1 + 63) / 64) pv av wr := by
  subst hm
  exact ⟨I.box, I.res, by rw [xsP_past l k _ hk]; exact I.own1, I.own2, I.old⟩
theorem BO.bright {w : World} {l : List Bool} {n k m g cap : Nat} {av : Value} {wr : World} (I : BO w l n k m (.slice (some ⟨g, 0, none⟩) m cap) av wr) (hk : k < l.length) (hx : l.getD k false = true) (hm : m = (k + 1 + 63) / 64 := by omega) :
    BO w l n (k + 1) ((k + 1 + 63) / 64) (.slice (some ⟨g, 0, none⟩) m cap) av (wr.setCell ⟨g, k / 64, none⟩ (.int .u64 ((Bt.part (l.take k) (k / 64) + 2 ^ (k % 64) : Nat) : Int))) := by
  have hg := (I.own1.lt g rfl).1
  have hne := own_ne I.own2 I.own1 (by decide)
  subst hm
  refine ⟨I.box.setOther (by simp; omega) _, I.res.setOther (by simp; omega) _, ?_, ?_, I.old.setCell (by simp; omega) _⟩
  · have h := I.own1.stored (k / 64) (.int .u64 ((Bt.part (l.take k) (k / 64) + 2 ^ (k % 64) : Nat) : Int))
    rw [xsP_set l k _ hk hx] at h
    exact h.1
  · refine ownsRow_setCell_other I.own2 ?_ _
    rcases hne with h | h
    · rw [h]; simp
    · exact h

/-- the same in the middle of a statement: the two rows have grown, the cells that hold them are as they were -/
structure BQ (w : World) (n : Nat) (pv av v1 : Value) (m1 : Nat) (xs1 : List Value) (v2 : Value) (m2 : Nat) (xs2 : List Value) (wr : World) : Prop where
  box : wr.rowIs (w.heap.size + 1) 68 3 (boxF n pv av)
  res : wr.rowIs w.heap.size 68 3 zeroBits
  own1 : wr.ownsRow (w.heap.size + 2) 90 1 v1 m1 xs1
  own2 : wr.ownsRow (w.heap.size + 2) 3 1 v2 m2 xs2
  old : Below w.heap.size w wr
  big : w.heap.size + 2 ≤ wr.heap.size
section
variable {w : World} {n : Nat} {pv av v1 : Value} {m1 : Nat} {xs1 : List Value} {v2 : Value} {m2 : Nat} {xs2 : List Value} {wr : World}
theorem BQ.alloc (Q : BQ w n pv av v1 m1 xs1 v2 m2 xs2 wr) (o : Obj) : BQ w n pv av v1 m1 xs1 v2 m2 xs2 (wr.alloc o) :=
  ⟨Q.box.alloc o, Q.res.alloc o, Q.own1.alloc o, Q.own2.alloc o, Q.old.alloc Q.old.size o, by have := Q.big; simp; omega⟩
theorem BQ.drew (Q : BQ w n pv av v1 m1 xs1 v2 m2 xs2 wr) : BQ w n pv av v1 m1 xs1 v2 m2 xs2 wr.drew := ⟨Q.box, Q.res, Q.own1, Q.own2, Q.old.drew, Q.big⟩
theorem BQ.app1 (Q : BQ w n pv av v1 m1 xs1 v2 m2 xs2 wr) {w1 : World} {v : Value} {m : Nat} {xs : List Value} (h : w1.ownsRow (w.heap.size + 2) 90 1 v m xs) (hg : wr.grownBy w1 v1.ownBlock) : BQ w n pv av v m xs v2 m2 xs2 w1 :=
  ⟨Q.box.of_block (hg.block _ Q.box.lt (own_above Q.own1 (by omega))), Q.res.of_block (hg.block _ Q.res.lt (own_above Q.own1 (by omega))), h, Q.own2.kept hg (own_ne Q.own2 Q.own1 (by decide)),
    Q.old.grown hg Q.old.size (fun k hk => by have := (Q.own1.lt k hk).1; omega), Nat.le_trans Q.big hg.size⟩
theorem BQ.app2 (Q : BQ w n pv av v1 m1 xs1 v2 m2 xs2 wr) {w1 : World} {v : Value} {m : Nat} {xs : List Value} (h : w1.ownsRow (w.heap.size + 2) 3 1 v m xs) (hg : wr.grownBy w1 v2.ownBlock) : BQ w n pv av v1 m1 xs1 v m xs w1 :=
  ⟨Q.box.of_block (hg.block _ Q.box.lt (own_above Q.own2 (by omega))), Q.res.of_block (hg.block _ Q.res.lt (own_above Q.own2 (by omega))), Q.own1.kept hg (own_ne Q.own1 Q.own2 (by decide)), h,
    Q.old.grown hg Q.old.size (fun k hk => by have := (Q.own2.lt k hk).1; omega), Nat.le_trans Q.big hg.size⟩
theorem BQ.cells (Q : BQ w n pv av v1 m1 xs1 v2 m2 xs2 wr) : wr.cell? ⟨w.heap.size + 1, 1, none⟩ = some pv ∧ wr.cell? ⟨w.heap.size + 1, 2, none⟩ = some av ∧ wr.frozen? ⟨w.heap.size + 1, 1, none⟩ = false ∧ wr.frozen? ⟨w.heap.size + 1, 2, none⟩ = false :=
  ⟨Q.box.cell (i := 1) (by omega), Q.box.cell (i := 2) (by omega), Q.box.frozen 1, Q.box.frozen 2⟩
/-- a new block's cell is still there when another row has grown -/
theorem grown_new {x w1 : World} {H : Nat} {v : Value} {base : Nat} {e : TypeId} {m : Nat} {xs : List Value} {y : World} (hg : x.grownBy w1 v.ownBlock) (ho : y.ownsRow base e 1 v m xs) (hH : y.heap.size = H) (j o : Nat) (hj : H ≤ j) (hlt : j < x.heap.size) :
    w1.cell? ⟨j, o, none⟩ = x.cell? ⟨j, o, none⟩ :=
  World.cell?_of_block (hg.block j hlt (fun h => by have := (ho.lt j h.symm).2; omega))
theorem BQ.store (Q : BQ w n pv av v1 m1 xs1 v2 m2 xs2 wr) : BQ w n v1 v2 v1 m1 xs1 v2 m2 xs2 ((wr.setCell ⟨w.heap.size + 1, 1, none⟩ v1).setCell ⟨w.heap.size + 1, 2, none⟩ v2) := by
  refine ⟨((Q.box.set 1 v1).set 2 v2).congr (fun i hi => ?_), (Q.res.setOther (by simp) _).setOther (by simp) _, ?_, ?_, (Q.old.setCell (by simp) _).setCell (by simp) _, by have := Q.big; simpa [World.setCell] using this⟩
  · match i, hi with
    | 0, _ => rfl
    | 1, _ => rfl
    | 2, _ => rfl
  · exact ownsRow_setCell_below (ownsRow_setCell_below Q.own1 (by simp) _) (by simp) _
  · exact ownsRow_setCell_below (ownsRow_setCell_below Q.own2 (by simp) _) (by simp) _
/-- what the statement leaves -/
theorem BQ.done {l : List Bool} {k : Nat} (Q : BQ w n pv av v1 (k / 64 + 1) (xsP l k (k / 64) ++ [.int .u64 0]) v2 (k / 64 + 1) (xsA l (k / 64) ++ [.int .i64 (Bt.ones (l.take k))]) wr) (hk : k % 64 = 0) :
    BO w l n k (k / 64 + 1) v1 v2 ((wr.setCell ⟨w.heap.size + 1, 1, none⟩ v1).setCell ⟨w.heap.size + 1, 2, none⟩ v2) := by
  have Q' := Q.store
  rw [xsP_more l k hk, xsA_more l k hk] at Q'
  exact ⟨Q'.box, Q'.res, Q'.own1, Q'.own2, Q'.old⟩
end

set_option maxHeartbeats 2000000 in
theorem bitsOf_new (A : Option Addr) (n c : Nat) (l : List Bool) (w : World) (hA : Row w w.heap.size A n (fun k => .bool (l.getD k false))) (hl : n = l.length) (hn : n ≤ 140737488355328) :
    Calls Tryz.prog 61 #[.slice A n c] w fun e w' =>
      ∃ g1 c1 g2 c2, e = .returned (.agg #[.int .i64 n, .slice (some ⟨g1, 0, none⟩) (n / 64 + 1) c1, .slice (some ⟨g2, 0, none⟩) (n / 64 + 1) c2]) ∧ w.heap.size ≤ g1 ∧ w.heap.size ≤ g2 ∧ IsBits w' w'.heap.size (some ⟨g1, 0, none⟩) (some ⟨g2, 0, none⟩) l ∧ Below w.heap.size w w' := by
  have Hl := Lib.hid hl
  clear hl
  go_enter Tryz.func61, Tryz.ntmps61
  go_wp2
  go_loopw [4, 5] (fun s4 s5 wr => ∃ (k : Nat) (pv av : Value), k ≤ n + 1 ∧ s5 = .int .i64 k ∧ s4 = .int .i64 (Bt.ones (l.take k)) ∧ BO w l n k ((k + 63) / 64) pv av wr)
    (fun _ s _ => n + 1 - (intOf s).toNat)
  case atStart => exact ⟨0, _, _, by omega, rfl, rfl, BO.start w l n⟩
  case round =>
    obtain ⟨k, pv, av, hk, rfl, rfl, I⟩ := hrel
    by_cases hkn : k ≤ n
    · go_upto_if 17 with fail
      go_cut [4, 5] from 9 to 52 (fun s4 s5 wx => s4 = .int .i64 (Bt.ones (l.take k)) ∧ s5 = .int .i64 k ∧ ∃ pv av, BO w l n k (k / 64 + 1) pv av wx)
      case first =>
        by_cases hz : k % 64 = 0
        · have hzb : ((k : Int) % 64 == 0) = true := by simp; omega
          rw [show (k + 63) / 64 = k / 64 from by omega] at I
          have Q : BQ w n pv av pv (k / 64) (xsP l k (k / 64)) av (k / 64) (xsA l (k / 64)) wr := ⟨I.box, I.res, I.own1, I.own2, I.old, by have := I.box.lt; omega⟩
          obtain ⟨q1, q2, q3, q4⟩ := Q.cells
          have h63 : k / 64 + 1 ≤ maxLen := by unfold maxLen; omega
          clear I
          have q5 := fun o => (Q.alloc o).cells.1
          have q6 := fun o => (Q.alloc o).cells.2.1
          have q7 := fun o o' => ((Q.alloc o).alloc o').cells.1
          have q8 := fun o o' => ((Q.alloc o).alloc o').cells.2.1
          go_wp2_with fail
          go_region_law
            (first
              | (refine step_app1 _ (by rfl) (.tmp 19) (.tmp 20) 66 (by rfl) (w.heap.size + 2) 90 (.int .u64 0) 8 Tryz.underlying66 infoU64 (by rfl) pv (k / 64) (xsP l k (k / 64)) (by rfl) _ (.int .u64 0) (by rfl) ?_ ?_ rfl h63 (by omega) ?_ ?_; (first | exact (Q.alloc _).own1 | exact ((Q.alloc _).alloc _).own1); (first | exact new1 _ _ _ | exact new1_under _ _ _ _ | exact new1_over _ _ _ _); (have := Q.big; simp; omega); intro g1 c1 w1 o1 gr1 _ _; (first | have Q1 := (Q.alloc _).drew.app1 o1 gr1 | have Q1 := ((Q.alloc _).alloc _).drew.app1 o1 gr1); obtain ⟨p1, p2, p3, p4⟩ := Q1.cells; have p5 := fun o => (Q1.alloc o).cells.2.1)
              | (refine step_app1 _ (by rfl) (.tmp 23) (.tmp 25) 22 (by rfl) (w.heap.size + 2) 3 (.int .i64 0) 8 Tryz.underlying22 infoInt (by rfl) av (k / 64) (xsA l (k / 64)) (by rfl) _ (.int .i64 (Bt.ones (l.take k))) (by rfl) ?_ ?_ rfl h63 (by omega) ?_ ?_; (first | exact Q1.own2 | exact (Q1.alloc _).own2); (first | exact new1 _ _ _ | (refine (grown_new gr1 Q.own1 rfl _ _ (by simp) (by simp <;> omega)).trans ?_; first | exact new1_under _ _ _ _ | exact new1_over _ _ _ _)); (have := Q1.big; first | omega | (simp; omega)); intro g2 c2 w2 o2 gr2 _ _; (first | have Q2 := Q1.app2 o2 gr2 | have Q2 := (Q1.alloc _).app2 o2 gr2); obtain ⟨r1, r2, r3, r4⟩ := Q2.cells))
          all_goals
            go_wp2_with fail
            go_meet
            exact ⟨rfl, rfl, _, _, Q2.done hz⟩
        · have hzb : ((k : Int) % 64 == 0) = false := by simp; omega
          rw [show (k + 63) / 64 = k / 64 + 1 from by omega] at I
          go_wp2_with fail
          go_meet
          exact ⟨rfl, rfl, _, _, I⟩
      case rest =>
        clear I pv av
        obtain ⟨rfl, rfl, pv, av, I⟩ := hcut
        have hob := Bt.ones_le (l.take k)
        rw [List.length_take] at hob
        have b0 : wc.cell? ⟨w.heap.size + 1, 0, none⟩ = some (.int .i64 n) := I.box.cell (by omega)
        have b1 : wc.cell? ⟨w.heap.size + 1, 1, none⟩ = some _ := I.box.cell (by omega)
        simp only [boxF] at b1
        by_cases hlt : k < n
        · obtain ⟨b, o, rfl, hbb, hc⟩ := hA (by omega)
          have hc1 : wc.cell? ⟨b, o + k, none⟩ = some (.bool (l.getD k false)) := (I.old.cell (p := ⟨b, o + k, none⟩) hbb).trans (hc k hlt)
          clear hc
          have hs := ones_step l k (by have := Hl.out; omega)
          cases hx : l.getD k false
          · rw [hx] at hc1 hs
            have I2 := I.dull (by have := Hl.out; omega) hx
            have H := Lib.hid hs
            clear hx hs
            go_wp2
            go_roundw
            case rel => exact ⟨k + 1, _, _, by omega, by go_num, by rw [H.out]; rfl, I2⟩
            case measure => simp [intOf]; omega
          · rw [hx] at hc1 hs
            have H := Lib.hid hs
            obtain ⟨g, cap, rfl, hg, hgl⟩ := I.own1.form (by omega)
            have I2 := I.bright (by have := Hl.out; omega) hx
            have d1 := I.own1.cellAt (k / 64) (by omega)
            rw [show (xsP l k (k / 64 + 1))[k / 64]? = some (.int .u64 (Bt.part (l.take k) (k / 64))) from by simp [xsP]] at d1
            have d2 := I.own1.frozenAt (k / 64)
            have d3 := part_room l k (by have := Hl.out; omega)
            have d4 : 2 ^ (k % 64) ≤ 2 ^ 63 := Nat.pow_le_pow_right (by omega) (by omega)
            have HW := Lib.hid (add_bit (Bt.part (l.take k) (k / 64)) (k % 64) d3 (by omega))
            generalize Bt.part (l.take k) (k / 64) = pt at d1 HW I2
            clear hx hs d3 d4
            go_wp2
            go_roundw
            case rel => exact ⟨k + 1, _, _, by omega, by go_num, by rw [H.out]; go_num, by rw [← HW.out] at I2; exact I2⟩
            case measure => simp [intOf]; omega
        · have I2 := I.past (by have := Hl.out; omega)
          have H := Lib.hid (show Bt.ones (l.take (k + 1)) = Bt.ones (l.take k) by rw [List.take_of_length_le (by have := Hl.out; omega), List.take_of_length_le (by have := Hl.out; omega)])
          go_wp2
          go_roundw
          case rel => exact ⟨k + 1, _, _, by omega, by go_num, by rw [H.out], I2⟩
          case measure => simp [intOf]; omega
    · have hk1 : k = n + 1 := by omega
      subst hk1
      rw [show (n + 1 + 63) / 64 = n / 64 + 1 from by omega] at I
      obtain ⟨g1, c1, rfl, hg1, _⟩ := I.own1.form (by omega)
      obtain ⟨g2, c2, rfl, hg2, _⟩ := I.own2.form (by omega)
      have b0 : wr.cell? ⟨w.heap.size + 1, 0, none⟩ = some (.int .i64 n) := I.box.cell (by omega)
      have b1 : wr.cell? ⟨w.heap.size + 1, 1, none⟩ = some (.slice (some ⟨g1, 0, none⟩) (n / 64 + 1) c1) := I.box.cell (by omega)
      have b2 : wr.cell? ⟨w.heap.size + 1, 2, none⟩ = some (.slice (some ⟨g2, 0, none⟩) (n / 64 + 1) c2) := I.box.cell (by omega)
      have z0 : wr.cell? ⟨w.heap.size, 0, none⟩ = some (.int .i64 0) := I.res.cell (by omega)
      have z1 : wr.cell? ⟨w.heap.size, 1, none⟩ = some (.slice none 0 0) := I.res.cell (by omega)
      have z2 : wr.cell? ⟨w.heap.size, 2, none⟩ = some (.slice none 0 0) := I.res.cell (by omega)
      have f0 : wr.frozen? ⟨w.heap.size, 0, none⟩ = false := I.res.frozen _
      have f1 : wr.frozen? ⟨w.heap.size, 1, none⟩ = false := I.res.frozen _
      have f2 : wr.frozen? ⟨w.heap.size, 2, none⟩ = false := I.res.frozen _
      go_wp2
      obtain ⟨s0, s1, s2⟩ := set3 I.res (.int .i64 n) (.slice (some ⟨g1, 0, none⟩) (n / 64 + 1) c1) (.slice (some ⟨g2, 0, none⟩) (n / 64 + 1) c2)
      refine bodyPost_ret (v := .agg #[.int .i64 n, .slice (some ⟨g1, 0, none⟩) (n / 64 + 1) c1, .slice (some ⟨g2, 0, none⟩) (n / 64 + 1) c2]) (by simp [results, Tryz.results61, go_sem, s0, s1, s2]) rfl ⟨_, c1, _, c2, rfl, by omega, by omega, ?_, ?_⟩
      · have h1 := ownsRow_setCell_below (ownsRow_setCell_below (ownsRow_setCell_below I.own1 (a := ⟨w.heap.size, 0, none⟩) (by simp) (.int .i64 n)) (a := ⟨w.heap.size, 1, none⟩) (by simp) (.slice (some ⟨g1, 0, none⟩) (n / 64 + 1) c1)) (a := ⟨w.heap.size, 2, none⟩) (by simp) (.slice (some ⟨g2, 0, none⟩) (n / 64 + 1) c2)
        have h2 := ownsRow_setCell_below (ownsRow_setCell_below (ownsRow_setCell_below I.own2 (a := ⟨w.heap.size, 0, none⟩) (by simp) (.int .i64 n)) (a := ⟨w.heap.size, 1, none⟩) (by simp) (.slice (some ⟨g1, 0, none⟩) (n / 64 + 1) c1)) (a := ⟨w.heap.size, 2, none⟩) (by simp) (.slice (some ⟨g2, 0, none⟩) (n / 64 + 1) c2)
        have el : l.take (n + 1) = l := List.take_of_length_le (by have := Hl.out; omega)
        unfold xsP at h1
        rw [el] at h1
        have hh := Hl.out
        subst hh
        exact ⟨Row.of_owns h1, Row.of_owns h2⟩
      · exact ((I.old.setCell (by simp) _).setCell (by simp) _).setCell (by simp) _

theorem bitsOf_any (A : Option Addr) (n c : Nat) (l : List Bool) (w : World) (hA : Row w w.heap.size A n (fun k => .bool (l.getD k false))) (hl : n = l.length) (hn : n ≤ 140737488355328) :
    Calls Tryz.prog 61 #[.slice A n c] w fun e w' =>
      ∃ A1 c1 A2 c2, e = .returned (.agg #[.int .i64 n, .slice A1 (n / 64 + 1) c1, .slice A2 (n / 64 + 1) c2]) ∧ IsBits w' w'.heap.size A1 A2 l ∧ Below w.heap.size w w' :=
  (bitsOf_new A n c l w hA hl hn).mono fun _ _ ⟨g1, c1, g2, c2, h1, _, _, h2, h3⟩ => ⟨some ⟨g1, 0, none⟩, c1, some ⟨g2, 0, none⟩, c2, h1, h2, h3⟩

end Go.Proofs.YtelapijdpcoekaaGreat

/- append onto nothing: a copy. No program is named here. -/
namespace Go.Proofs.YtelapijdpcoekaaGreat
open Go.RowKit
variable {P : Program}

/-- append([]T(nil), x...): a copy, or nothing -/
theorem wpList_copy_nil (w : World) {ops : Array Oper} {rest : List Oper} {o : Oper} {a : Act} {Q : Exit → Act → World → Prop} (hgd : o.guard = none) (s x : Operand) (t : TypeId)
    (ho : o.op = .call { callee := .builtin .append, args := #[s, x], argTypes := #[t, t] })
    (e : TypeId) (z : Value) (bytes : Nat) (ht : P.underlying t = some (.slice e)) (hinfo : (P.info? e).map (fun i => (i.zero, i.size, i.bytes)) = some (some z, 1, bytes)) (hz1 : z.cells.size = 1)
    (A : Option Addr) (n c : Nat) (f : Nat → Value) (hs : a.eval s = .slice none 0 0) (hx : a.eval x = .slice A n c) (hr : Row w w.heap.size A n f) (h1 : ∀ i, i < n → (f i).oneCell' = true)
    (h63 : n ≤ maxLen) (hbytes : n * bytes ≤ 140737488355328)
    (h : ∀ A' c' w', Row w' w'.heap.size A' n f → Below w.heap.size w w' → wpList P ops Q rest (a.put o.dst (.slice A' n c')) w') : wpList P ops Q (o :: rest) a w := by
  obtain ⟨i, hi, hzz⟩ := Option.map_eq_some_iff.1 hinfo
  simp only [Prod.mk.injEq] at hzz
  obtain ⟨hz, hsz, hb⟩ := hzz
  by_cases hn : n = 0
  · subst hn
    refine wpList_plain hgd fun K hK => ?_
    have hrun : (Builtin.append_ #[t, t] o.type #[.slice none 0 0, .slice A 0 c]).run P w = .ok (.slice none 0 0) w := by
      simp [Builtin.append_, run_underlying ht, sizeOf, typeInfo, hi, Builtin.lenOf, Builtin.firstCells]
      cases A <;> simp [loadCells, loadCellsFrom]
    unfold Oper.wp execOp
    simp only [ho, resolve, invoke, builtin, Sem.run_bind, Sem.run_pure, Result.andThen_ok, List.map_toArray, List.map_cons, List.map_nil, hs, hx, hrun]
    exact hK _ _ (h none 0 w Row.zero (Below.refl _ _))
  · obtain ⟨b, off, rfl, hbl, hc⟩ := hr (by omega)
    refine wpList_append_lies w hgd s x t ho w.heap.size e i z 1 bytes ht hi hz hsz hb hz1 (by omega) (.slice none 0 0) 0 [] hs (World.ownsRow_nil _ _ _ _) ⟨b, off, none⟩ n c ((List.range n).map f) hx (by simp) ?_ ?_ (by omega) (by omega) (by simpa using hbytes) (Nat.le_refl _) w.heap.size rfl ?_
    · intro j u hu
      by_cases hj : j < n
      · simp [hj] at hu
        subst hu
        have e1 : (⟨b, off, none⟩ : Addr).add j = ⟨b, off + j, none⟩ := by
          by_cases h0 : j = 0
          · subst h0; simp [Addr.add]
          · simp [Addr.add, h0]
        rw [e1]; exact hc j hj
      · simp [hj] at hu
    · intro u hu
      simp at hu
      obtain ⟨j, hj, rfl⟩ := hu
      exact h1 j hj
    · intro g cap w' hown hgrow _ _
      rw [Nat.zero_add, List.nil_append] at hown
      rw [Nat.zero_add]
      exact h _ cap w' (Row.of_owns hown) ((Below.refl _ w).grown hgrow (Nat.le_refl _) (fun k hk => by simp [Value.ownBlock] at hk))

/-- append([]T(nil), x...): a copy, or nothing, and its capacity is no less than its length -/
theorem wpList_copy_cap (w : World) {ops : Array Oper} {rest : List Oper} {o : Oper} {a : Act} {Q : Exit → Act → World → Prop} (hgd : o.guard = none) (s x : Operand) (t : TypeId)
    (ho : o.op = .call { callee := .builtin .append, args := #[s, x], argTypes := #[t, t] })
    (e : TypeId) (z : Value) (bytes : Nat) (ht : P.underlying t = some (.slice e)) (hinfo : (P.info? e).map (fun i => (i.zero, i.size, i.bytes)) = some (some z, 1, bytes)) (hz1 : z.cells.size = 1)
    (A : Option Addr) (n c : Nat) (f : Nat → Value) (hs : a.eval s = .slice none 0 0) (hx : a.eval x = .slice A n c) (hr : Row w w.heap.size A n f) (h1 : ∀ i, i < n → (f i).oneCell' = true)
    (h63 : n ≤ maxLen) (hbytes : n * bytes ≤ 140737488355328)
    (h : ∀ A' c' w', n ≤ c' → Row w' w'.heap.size A' n f → Below w.heap.size w w' → wpList P ops Q rest (a.put o.dst (.slice A' n c')) w') : wpList P ops Q (o :: rest) a w := by
  obtain ⟨i, hi, hzz⟩ := Option.map_eq_some_iff.1 hinfo
  simp only [Prod.mk.injEq] at hzz
  obtain ⟨hz, hsz, hb⟩ := hzz
  by_cases hn : n = 0
  · subst hn
    refine wpList_plain hgd fun K hK => ?_
    have hrun : (Builtin.append_ #[t, t] o.type #[.slice none 0 0, .slice A 0 c]).run P w = .ok (.slice none 0 0) w := by
      simp [Builtin.append_, run_underlying ht, sizeOf, typeInfo, hi, Builtin.lenOf, Builtin.firstCells]
      cases A <;> simp [loadCells, loadCellsFrom]
    unfold Oper.wp execOp
    simp only [ho, resolve, invoke, builtin, Sem.run_bind, Sem.run_pure, Result.andThen_ok, List.map_toArray, List.map_cons, List.map_nil, hs, hx, hrun]
    exact hK _ _ (h none 0 w (Nat.le_refl _) Row.zero (Below.refl _ _))
  · obtain ⟨b, off, rfl, hbl, hc⟩ := hr (by omega)
    refine wpList_append_lies w hgd s x t ho w.heap.size e i z 1 bytes ht hi hz hsz hb hz1 (by omega) (.slice none 0 0) 0 [] hs (World.ownsRow_nil _ _ _ _) ⟨b, off, none⟩ n c ((List.range n).map f) hx (by simp) ?_ ?_ (by omega) (by omega) (by simpa using hbytes) (Nat.le_refl _) w.heap.size rfl ?_
    · intro j u hu
      by_cases hj : j < n
      · simp [hj] at hu
        subst hu
        have e1 : (⟨b, off, none⟩ : Addr).add j = ⟨b, off + j, none⟩ := by
          by_cases h0 : j = 0
          · subst h0; simp [Addr.add]
          · simp [Addr.add, h0]
        rw [e1]; exact hc j hj
      · simp [hj] at hu
    · intro u hu
      simp at hu
      obtain ⟨j, hj, rfl⟩ := hu
      exact h1 j hj
    · intro g cap w' hown hgrow _ _
      rw [Nat.zero_add, List.nil_append] at hown
      rw [Nat.zero_add]
      exact h _ cap w' (by
        rcases hown.2 with ⟨_, h0⟩ | ⟨g', cap', cur, hv, _, _, hc, _⟩
        · omega
        · injection hv with _ _ hv; omega) (Row.of_owns hown) ((Below.refl _ w).grown hgrow (Nat.le_refl _) (fun k hk => by simp [Value.ownBlock] at hk))

end Go.Proofs.YtelapijdpcoekaaGreat
