/- The reference's rising: each number once, by order. -/
import Derived.Test.YtffhphcgmgkgbabGreatDoorYa
namespace Go.Proofs.YtffhphcgmgkgbabGreatDoor
open Go.RowKit
attribute [local irreducible] Bt.pop Bt.popF

theorem rising_eqI : ∀ {x y : List Int}, x.Pairwise (· < ·) → y.Pairwise (· < ·) → (∀ a, a ∈ x ↔ a ∈ y) → x = y
  | [], [], _, _, _ => rfl
  | [], b :: y, _, _, h => by have := (h b).2 (by simp); simp at this
  | a :: x, [], _, _, h => by have := (h a).1 (by simp); simp at this
  | a :: x, b :: y, h1, h2, h => by
    obtain ⟨h1a, h1b⟩ := List.pairwise_cons.1 h1
    obtain ⟨h2a, h2b⟩ := List.pairwise_cons.1 h2
    have e : a = b := by
      have p1 := (h a).1 (by simp)
      have p2 := (h b).2 (by simp)
      rcases List.mem_cons.1 p1 with p1 | p1
      · exact p1
      · rcases List.mem_cons.1 p2 with p2 | p2
        · exact p2.symm
        · have := h1a b p2
          have := h2a a p1
          omega
    subst e
    rw [rising_eqI h1b h2b (fun c => ?_)]
    constructor
    · intro hc
      have := h1a c hc
      rcases List.mem_cons.1 ((h c).1 (by simp [hc])) with p | p
      · omega
      · exact p
    · intro hc
      have := h2a c hc
      rcases List.mem_cons.1 ((h c).2 (by simp [hc])) with p | p
      · omega
      · exact p
/-- a list with a number put in at a place -/
def hole (R : List Int) (j : Nat) (h : Int) : List Int := R.take j ++ [h] ++ R.drop j
theorem hole_len (R : List Int) (j : Nat) (h : Int) (hj : j ≤ R.length) : (hole R j h).length = R.length + 1 := by simp [hole]; omega
theorem hole_end (R : List Int) (x : Int) : hole R R.length x = R ++ [x] := by simp [hole]
theorem hole_set (R : List Int) (j : Nat) (h x : Int) (hj : j ≤ R.length) : (hole R j h).set j x = hole R j x := by
  unfold hole
  rw [List.append_assoc, List.append_assoc, List.set_append_right _ _ (by rw [List.length_take]; omega), List.length_take, show j - min j R.length = 0 from by omega]
  rfl
theorem hole_down (R : List Int) (j : Nat) (hj : j + 1 ≤ R.length) : hole R (j + 1) (R.getD j 0) = hole R j (R.getD j 0) := by
  have hj' : j < R.length := by omega
  unfold hole
  rw [List.take_succ_eq_append_getElem hj', List.drop_eq_getElem_cons hj']
  simp [hj']
theorem hole_get (R : List Int) (j i : Nat) (h : Int) (hi : i < j) (hj : j ≤ R.length) : (hole R j h).getD i 0 = R.getD i 0 := by
  unfold hole
  rw [List.append_assoc, List.getD_eq_getElem?_getD, List.getElem?_append_left (by rw [List.length_take]; omega), List.getElem?_take, if_pos hi, List.getD_eq_getElem?_getD]
theorem hole_mem (R : List Int) (j : Nat) (x a : Int) : a ∈ hole R j x ↔ a ∈ R ∨ a = x := by
  unfold hole
  rw [List.mem_append, List.mem_append, List.mem_singleton]
  have : a ∈ R ↔ a ∈ R.take j ∨ a ∈ R.drop j := by rw [← List.mem_append, List.take_append_drop]
  rw [this]
  constructor
  · rintro ((h | h) | h)
    · exact .inl (.inl h)
    · exact .inr h
    · exact .inl (.inr h)
  · rintro ((h | h) | h)
    · exact .inl (.inl h)
    · exact .inr h
    · exact .inl (.inr h)
theorem hole_sorted (R : List Int) (j : Nat) (x : Int) (hR : R.Pairwise (· < ·)) (hj : j ≤ R.length) (h1 : ∀ i, i < j → R.getD i 0 < x) (h2 : ∀ i, j ≤ i → i < R.length → x < R.getD i 0) : (hole R j x).Pairwise (· < ·) := by
  unfold hole
  have ht : ∀ a ∈ R.take j, a < x := fun a ha => by
    obtain ⟨i, hi, rfl⟩ := List.getElem_of_mem ha
    rw [List.length_take] at hi
    rw [List.getElem_take]
    have := h1 i (by omega)
    rwa [show R.getD i 0 = R[i] from by simp [show i < R.length by omega]] at this
  have hd : ∀ a ∈ R.drop j, x < a := fun a ha => by
    obtain ⟨i, hi, rfl⟩ := List.getElem_of_mem ha
    rw [List.length_drop] at hi
    rw [List.getElem_drop]
    have := h2 (j + i) (by omega) (by omega)
    rwa [show R.getD (j + i) 0 = R[j + i] from by simp [show j + i < R.length by omega]] at this
  rw [List.pairwise_append, List.pairwise_append]
  refine ⟨⟨hR.sublist (List.take_sublist _ _), List.pairwise_singleton _ _, fun a ha b hb => ?_⟩, hR.sublist (List.drop_sublist _ _), fun a ha b hb => ?_⟩
  · rw [List.mem_singleton] at hb; subst hb; exact ht a ha
  · have := hd b hb
    rcases List.mem_append.1 ha with ha | ha
    · have := ht a ha; omega
    · rw [List.mem_singleton] at ha; subst ha; exact this
/-- a row of the call's own, a number put into it -/
theorem OL.put {w : World} {L : List Int} {g n cap : Nat} {W : World} (h : OL w L (.slice (some ⟨g, 0, none⟩) n cap) W) (hn : n = L.length) (j : Nat) (x : Int) : OL w (L.set j x) (.slice (some ⟨g, 0, none⟩) n cap) (W.setCell ⟨g, j, none⟩ (.int .i64 x)) := by
  have ho := h.own
  rw [← hn] at ho
  have h1 := (ho.stored j (.int .i64 x)).1
  refine ⟨?_, h.old.setCell (p := ⟨g, j, none⟩) (ho.lt g rfl).1 _⟩
  rw [List.length_set, ← hn]
  rw [← List.map_set] at h1
  exact h1
theorem OL.cellL {w : World} {L : List Int} {g n cap : Nat} {W : World} (h : OL w L (.slice (some ⟨g, 0, none⟩) n cap) W) (hn : n = L.length) (j : Nat) (hj : j < n) : W.cell? ⟨g, j, none⟩ = some (.int .i64 (L.getD j 0)) ∧ W.frozen? ⟨g, j, none⟩ = false := by
  have ho := h.own
  rw [← hn] at ho
  refine ⟨?_, ho.frozenAt j⟩
  rw [ho.cellAt j (by omega)]
  simp [show j < L.length by omega]

/-- rising, each of the first k -/
structure Rs (L : List Int) (k : Nat) (R : List Int) : Prop where
  up : R.Pairwise (· < ·)
  mem : ∀ a, a ∈ R ↔ a ∈ L.take k
  len : R.length ≤ k
theorem Rs.known {L : List Int} {k : Nat} {R : List Int} (h : Rs L k R) (hk : k < L.length) (hx : L.getD k 0 ∈ R) : Rs L (k + 1) R := by
  refine ⟨h.up, fun a => ?_, by have := h.len; omega⟩
  rw [List.take_succ_eq_append_getElem hk, List.mem_append, List.mem_singleton, ← h.mem]
  rw [show L.getD k 0 = L[k] from by simp [hk]] at hx
  constructor
  · exact .inl
  · rintro (h1 | h1)
    · exact h1
    · rw [h1]; exact hx
theorem Rs.put {L : List Int} {k : Nat} {R : List Int} (h : Rs L k R) (hk : k < L.length) (j : Nat) (hj : j ≤ R.length) (hx : L.getD k 0 ∉ R) (h1 : 0 < j → R.getD (j - 1) 0 ≤ L.getD k 0) (h2 : ∀ i, j ≤ i → i < R.length → L.getD k 0 < R.getD i 0) : Rs L (k + 1) (hole R j (L.getD k 0)) := by
  refine ⟨hole_sorted R j _ h.up hj (fun i hi => ?_) h2, fun a => ?_, by rw [hole_len R j _ hj]; have := h.len; omega⟩
  · have hi' : i < R.length := by omega
    have e1 : R.getD i 0 ∈ R := by rw [show R.getD i 0 = R[i] from by simp [hi']]; exact List.getElem_mem hi'
    have h3 := h1 (by omega)
    have h4 : R.getD i 0 ≤ R.getD (j - 1) 0 := by
      by_cases e : i = j - 1
      · rw [e]; omega
      · have := List.pairwise_iff_getElem.1 h.up i (j - 1) hi' (by omega) (by omega)
        rw [show R.getD i 0 = R[i] from by simp [hi'], show R.getD (j - 1) 0 = R[j - 1] from by simp [show j - 1 < R.length by omega]]
        omega
    have h5 : R.getD i 0 ≠ L.getD k 0 := fun e => hx (by rw [← e]; exact e1)
    omega
  · rw [hole_mem, h.mem, List.take_succ_eq_append_getElem hk, List.mem_append, List.mem_singleton, show L.getD k 0 = L[k] from by simp [hk]]
theorem mem_take_succ {R : List Int} {q : Nat} (x : Int) (h : q < R.length) : (R.take (q + 1)).contains x = ((R.take q).contains x || (R.getD q 0 == x)) := by
  rw [List.take_succ_eq_append_getElem h, show R.getD q 0 = R[q] from by simp [h], Bool.eq_iff_iff, Bool.or_eq_true, List.contains_iff_mem, List.contains_iff_mem, List.mem_append, List.mem_singleton, beq_iff_eq]
  constructor
  · rintro (h1 | h1)
    · exact .inl h1
    · exact .inr h1.symm
  · rintro (h1 | h1)
    · exact .inl h1
    · exact .inr h1.symm

set_option maxHeartbeats 4000000 in
theorem rising_any (A : Option Addr) (c : Nat) (L T : List Int) (w : World) (hr : IRow w w.heap.size A L) (hn : L.length ≤ 150) (hT : T.Pairwise (· < ·)) (hm : ∀ a, a ∈ T ↔ a ∈ L) :
    Calls Tryz.prog 58 #[.slice A L.length c] w (Ints w T) := by
  have HA : Hid (∀ W, Below w.heap.size w W → ∀ i, i < L.length → ∃ b o, A = some ⟨b, o, none⟩ ∧ W.cell? ⟨b, o + i, none⟩ = some (.int .i64 (L.getD i 0))) := Lib.hid fun W hW i hi => irow_at' (hr.on hW) i hi
  have HE : Hid (∀ R, Rs L L.length R → R = T) := Lib.hid fun R h => rising_eqI h.up hT (fun a => by rw [h.mem, List.take_length, hm])
  have HKn := Lib.hid (fun k R (h : Rs L k R) hk hx => Rs.known h hk hx)
  have HPt := Lib.hid (fun k R (h : Rs L k R) hk j hj hx h1 h2 => Rs.put h hk j hj hx h1 h2)
  have HR0 : Hid (Rs L 0 []) := Lib.hid ⟨List.Pairwise.nil, fun a => by simp, Nat.le_refl _⟩
  clear hr hT hm
  generalize hN : L.length = N at *
  clear hN
  go_enter Tryz.func58, Tryz.ntmps58
  go_wp2
  go_loopw [3, 12] (fun s3 t W => ∃ (k : Nat) (R : List Int), k ≤ N ∧ t = .int .i64 k ∧ Hid (Rs L k R) ∧ OL w R s3 W) (fun _ t _ => N - (intOf t).toNat)
  case atStart => exact ⟨0, [], Nat.zero_le _, rfl, HR0, OL.nil w w (Below.refl _ _)⟩
  case round =>
    obtain ⟨k, R, hk, rfl, HR, J⟩ := hrel
    generalize wr = V at *
    by_cases hlt : k < N
    · have hlz : (k : Int) < (N : Int) := by omega
      obtain ⟨b, o, rfl, d1⟩ := HA.out V J.old k hlt
      have HK1 := Lib.hid (HKn.out k R HR.out hlt)
      have HP1 := Lib.hid (HPt.out k R HR.out hlt)
      have hRl := HR.out.len
      generalize L.getD k 0 = x at *
      clear HKn HPt HR HE HR0
      obtain ⟨Y, cy, hy, _⟩ := own_slice J.own
      subst hy
      have HI := Lib.hid J.ints
      have HRow : Hid (∀ i, i < R.length → ∃ b' o', Y = some ⟨b', o', none⟩ ∧ V.cell? ⟨b', o' + i, none⟩ = some (.int .i64 (R.getD i 0))) := Lib.hid fun i hi => by
        obtain ⟨X, cx, h1, h2, h3⟩ := HI.out
        injection h1 with h1
        injection h1 with h1
        subst h1
        exact irow_at' h2 i hi
      have HTk := Lib.hid (fun q hq => mem_take_succ (R := R) (q := q) x hq)
      generalize hrl : R.length = m at *
      have Hm := Lib.hid hrl
      clear hrl HI
      go_wp2
      go_loopw [7, 20] (fun s7 t W => ∃ q : Nat, q ≤ m ∧ t = .int .i64 q ∧ s7 = .bool ((R.take q).contains x) ∧ W = V) (fun _ t _ => m - (intOf t).toNat)
      case atStart => exact ⟨0, Nat.zero_le _, rfl, by simp, rfl⟩
      case round =>
        obtain ⟨q, hq, rfl, rfl, rfl⟩ := hrel
        by_cases hlt2 : q < m
        · have hlz2 : (q : Int) < (m : Int) := by omega
          obtain ⟨b2, o2, rfl, d2⟩ := HRow.out q hlt2
          have HT1 := Lib.hid (HTk.out q hlt2)
          generalize R.getD q 0 = y at *
          generalize hbb : (R.take q).contains x = bb at *
          clear hbb
          clear HTk HRow HK1 HP1
          cases bb with
          | true =>
            go_wp2
            go_roundw
            case rel => exact ⟨q + 1, by omega, by go_num, by rw [HT1.out]; rfl, by first | rfl | trivial⟩
            case measure => simp [intOf]; omega
          | false =>
            go_wp2
            go_roundw
            case rel => exact ⟨q + 1, by omega, by go_num, by rw [HT1.out, Bool.false_or], by first | rfl | trivial⟩
            case measure => simp [intOf]; omega
        · obtain rfl : q = m := by omega
          rw [show (R.take q).contains x = R.contains x from by rw [← Hm.out, List.take_length]]
          cases hcx : R.contains x with
          | true =>
            have HK2 := Lib.hid (HK1.out (by simpa using hcx))
            clear HTk HRow HK1 HP1 hcx
            go_wp2
            go_roundw
            case rel => exact ⟨k + 1, R, by omega, by go_num, HK2.out, J⟩
            case measure => simp [intOf]; omega
          | false =>
            have hnx : x ∉ R := by simpa using hcx
            have HP2 := Lib.hid (fun j hj => HP1.out j hj hnx)
            have J1 := J.on ((Below.refl _ _).alloc (Nat.le_refl _) (.cells #[.int .i64 x] 3))
            have hmx : q + 1 ≤ maxLen := by unfold maxLen; omega
            have hsz := J1.old.size
            have J1o := J1.own
            rw [Hm.out] at J1o
            clear HTk HRow HK1 HP1 hcx hnx
            go_wp2_with (at_builtin; refine wpList_app1 _ rfl _ _ 22 rfl w.heap.size 3 (.int .i64 0) 8 Tryz.underlying22 infoInt4 rfl _ q (R.map (Value.int .i64)) rfl _ (.int .i64 x) rfl J1o (new1 _ _ _) (by simp) rfl hmx (by omega) hsz ?_; intro v' w2 h2 h3 _; rw [← Hm.out] at h2; have J2 := J1.app x h2 h3; rw [← hole_end, Hm.out] at J2; obtain ⟨g, cap, hv, _, _⟩ := J2.own.form (by rw [hole_len R q x (by rw [Hm.out]; omega)]; omega); rw [hole_len R q x (by rw [Hm.out]; omega), Hm.out] at hv; subst hv)
            go_loopw [6] (fun s6 W => ∃ (j : Nat) (h : Int), j ≤ q ∧ s6 = .int .i64 j ∧ Hid (∀ i, j ≤ i → i < q → x < R.getD i 0) ∧ OL w (hole R j h) (.slice (some ⟨g, 0, none⟩) (q + 1) cap) W) (fun s6 _ => (intOf s6).toNat)
            case atStart => exact ⟨q, x, Nat.le_refl _, rfl, Lib.hid (fun i h4 h5 => absurd h5 (by omega)), J2⟩
            case round =>
              clear J2 J1 J1o h2 h3 hsz J
              obtain ⟨j, h, hj, rfl, HG, J⟩ := hrel
              have hlen : q + 1 = (hole R j h).length := by rw [hole_len R j h (by rw [Hm.out]; exact hj), Hm.out]
              have HL1 := Lib.hid hlen
              clear hlen
              by_cases hj0 : 0 < j
              · obtain ⟨j', rfl⟩ : ∃ j', j = j' + 1 := ⟨j - 1, by omega⟩
                obtain ⟨c1, _⟩ := J.cellL HL1.out j' (by omega)
                rw [hole_get R (j' + 1) j' h (by omega) (by rw [Hm.out]; exact hj)] at c1
                obtain ⟨c2, f2⟩ := J.cellL HL1.out (j' + 1) (by omega)
                by_cases hgt : x < R.getD j' 0
                · have J3 := J.put HL1.out (j' + 1) (R.getD j' 0)
                  rw [hole_set R (j' + 1) h _ (by rw [Hm.out]; exact hj), hole_down R j' (by rw [Hm.out]; exact hj)] at J3
                  have HG2 : Hid (∀ i, j' ≤ i → i < q → x < R.getD i 0) := Lib.hid fun i h4 h5 => by
                    by_cases e : i = j'
                    · rw [e]; exact hgt
                    · exact HG.out i (by omega) h5
                  generalize R.getD j' 0 = y at *
                  generalize (hole R (j' + 1) h).getD (j' + 1) 0 = z at *
                  have z1 : (0 : Int) < (j' : Int) + 1 := by omega
                  clear HG HP2 J
                  go_wp2
                  go_roundw
                  case rel => exact ⟨j', y, by omega, by go_num, HG2, J3⟩
                  case measure => simp [intOf]
                · have J3 := J.put HL1.out (j' + 1) x
                  rw [hole_set R (j' + 1) h _ (by rw [Hm.out]; exact hj)] at J3
                  have HR3 := Lib.hid (HP2.out (j' + 1) hj (fun _ => by rw [Nat.add_sub_cancel]; omega) (fun i h4 h5 => HG.out i h4 h5))
                  generalize R.getD j' 0 = y at *
                  generalize (hole R (j' + 1) h).getD (j' + 1) 0 = z at *
                  have z1 : (0 : Int) < (j' : Int) + 1 := by omega
                  clear HG HP2 J
                  go_wp2
                  go_roundw
                  case rel => exact ⟨k + 1, _, by omega, by go_num, HR3.out, J3⟩
                  case measure => simp [intOf]; omega
              · obtain rfl : j = 0 := by omega
                obtain ⟨c2, f2⟩ := J.cellL HL1.out 0 (by omega)
                have J3 := J.put HL1.out 0 x
                rw [hole_set R 0 h _ (Nat.zero_le _)] at J3
                have HR3 := Lib.hid (HP2.out 0 (Nat.zero_le _) (fun h => absurd h (by omega)) (fun i h4 h5 => HG.out i h4 h5))
                generalize (hole R 0 h).getD 0 0 = z at *
                clear HG HP2 J
                go_wp2
                go_roundw
                case rel => exact ⟨k + 1, _, by omega, by go_num, HR3.out, J3⟩
                case measure => simp [intOf]; omega
    · obtain rfl : k = N := by omega
      obtain rfl := HE.out R HR.out
      have hI := J.ints
      obtain ⟨Y, cy, hy, _⟩ := own_slice J.own
      subst hy
      clear HA HE HKn HPt HR0 HR J
      go_wp2
      go_ret
      exact hI

end Go.Proofs.YtffhphcgmgkgbabGreatDoor
