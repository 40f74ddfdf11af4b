import Derived.Test.YtoejenejleocdabGreatDoorJi
import Derived.Test.YtoejenejleocdabGreatDoorJk
/- The reference's stands, PlacesOf, SpanOf. -/
namespace Go.Proofs.YtoejenejleocdabGreatDoor
open Go.RowKit
attribute [local irreducible] Bt.pop Bt.popF

theorem stands_all' (l s : List Int) (p : Nat) (hp : p ≤ l.length) : En.stands l s p = true ↔ p + s.length ≤ l.length ∧ ∀ j, j < s.length → l.getD (p + j) 0 = s.getD j 0 := by
  induction s generalizing p with
  | nil => simp [En.stands]; omega
  | cons x s ih =>
    by_cases h : p < l.length
    · rw [En.stands_cons l s x p h, Bool.and_eq_true, decide_eq_true_eq, ih (p + 1) (by omega)]
      constructor
      · rintro ⟨h1, h2, h3⟩
        refine ⟨by simp only [List.length_cons]; omega, fun j hj => ?_⟩
        cases j with
        | zero => simpa using h1
        | succ j =>
          have := h3 j (by simpa using hj)
          rw [show p + (j + 1) = p + 1 + j from by omega, this]
          rfl
      · rintro ⟨h1, h2⟩
        simp only [List.length_cons] at h1
        refine ⟨by simpa using h2 0 (by simp), by omega, fun j hj => ?_⟩
        have := h2 (j + 1) (by simpa using hj)
        rw [show p + 1 + j = p + (j + 1) from by omega, this]
        rfl
    · obtain rfl : p = l.length := by omega
      simp [En.stands]
      intro h3
      omega
theorem irow_at' {W : World} {B : Nat} {A : Option Addr} {l : List Int} (h : IRow W B A l) (i : Nat) (hi : i < l.length) : ∃ b o, A = some ⟨b, o, none⟩ ∧ W.cell? ⟨b, o + i, none⟩ = some (.int .i64 (l.getD i 0)) := by
  obtain ⟨b, o, e, _, hc⟩ := h (by omega)
  exact ⟨b, o, e, hc i hi⟩

set_option maxHeartbeats 1000000 in
theorem refStands_any (A A2 : Option Addr) (c c2 : Nat) (l s : List Int) (p : Nat) (w : World) (hr : IRow w w.heap.size A l) (hr2 : IRow w w.heap.size A2 s) (hn : l.length ≤ 150) (hs : s.length ≤ 17592186044416) (hp : p ≤ l.length) :
    Calls Tryz.prog 64 #[.slice A l.length c, .slice A2 s.length c2, .int .i64 p] w fun e w' => e = .returned (.bool (En.stands l s p)) ∧ w = w' := by
  have HS := Lib.hid (stands_all' l s p hp)
  have HA := Lib.hid (irow_at' hr)
  have HB := Lib.hid (irow_at' hr2)
  clear hr hr2
  generalize hN : l.length = N at *
  generalize hN2 : s.length = n2 at *
  clear hN hN2
  generalize En.stands l s p = r at *
  by_cases hfit : p + n2 ≤ N
  · have hz : ¬ ((N : Int) < (p : Int) + (n2 : Int)) := by omega
    go_enter Tryz.func64, Tryz.ntmps64
    go_wp2
    go_loop [18] (fun t => ∃ k : Nat, k ≤ n2 ∧ t = .int .i64 k ∧ Hid (∀ j, j < k → l.getD (p + j) 0 = s.getD j 0)) (fun t => n2 - (intOf t).toNat)
    case atStart => exact ⟨0, Nat.zero_le _, rfl, Lib.hid (fun j hj => absurd hj (by omega))⟩
    case round =>
      obtain ⟨k, hk, rfl, HK⟩ := hrel
      by_cases hlt : k < n2
      · have hlz : (k : Int) < (n2 : Int) := by omega
        obtain ⟨b1, o1, rfl, d1⟩ := HA.out (p + k) (by omega)
        obtain ⟨b2, o2, rfl, d2⟩ := HB.out k hlt
        have v2 : ((p : Int) + (k : Int)).toNat = p + k := by omega
        have v3 : (0 : Int) ≤ (p : Int) + (k : Int) := by omega
        have v4 : (p : Int) + (k : Int) < (N : Int) := by omega
        by_cases he : l.getD (p + k) 0 = s.getD k 0
        · have HK2 : Hid (∀ j, j < k + 1 → l.getD (p + j) 0 = s.getD j 0) := Lib.hid fun j hj => by
            by_cases e : j = k
            · rw [e]; exact he
            · exact HK.out j (by omega)
          rw [he] at d1
          generalize s.getD k 0 = x at *
          have t1 : (x != x) = false := by simp
          clear he HK HS HA HB
          go_wp2
          go_round
          case rel => exact ⟨k + 1, by omega, by go_num, HK2⟩
          case measure => simp [intOf]; omega
        · have hr0 : r = false := by
            cases r with
            | false => rfl
            | true => exact absurd ((HS.out.1 rfl).2 k hlt) he
          have t1 : (l.getD (p + k) 0 != s.getD k 0) = true := by simpa using he
          generalize l.getD (p + k) 0 = x at *
          generalize s.getD k 0 = y at *
          subst hr0
          clear he HK HS HA HB
          go_wp2
          go_ret
          exact ⟨rfl, rfl⟩
      · obtain rfl : k = n2 := by omega
        have hr1 : r = true := HS.out.2 ⟨hfit, HK.out⟩
        subst hr1
        clear HK HS HA HB
        go_wp2
        go_ret
        exact ⟨rfl, rfl⟩
  · have hz : (N : Int) < (p : Int) + (n2 : Int) := by omega
    have hr0 : r = false := by
      cases r with
      | false => rfl
      | true => exact absurd (HS.out.1 rfl).1 hfit
    subst hr0
    clear HS HA HB
    go_enter Tryz.func64, Tryz.ntmps64
    go_wp2
    go_ret
    exact ⟨rfl, rfl⟩

/-- the places among the first k -/
def plk (l s : List Int) (k : Nat) : List Nat := (List.range k).filter (En.stands l s)
theorem plk_succ (l s : List Int) (k : Nat) : plk l s (k + 1) = plk l s k ++ if En.stands l s k = true then [k] else [] := by
  unfold plk
  rw [List.range_succ, List.filter_append]
  congr 1
  rw [List.filter_cons, List.filter_nil]
theorem plk_len (l s : List Int) (k : Nat) : (plk l s k).length ≤ k := Nat.le_trans (List.length_filter_le _ _) (by simp)

set_option maxHeartbeats 1000000 in
theorem placesOf_any (A A2 : Option Addr) (c c2 : Nat) (l s : List Int) (w : World) (hr : IRow w w.heap.size A l) (hr2 : IRow w w.heap.size A2 s) (hn : l.length ≤ 150) (hs : s.length ≤ 17592186044416) :
    Calls Tryz.prog 37 #[.slice A l.length c, .slice A2 s.length c2] w (Ints w (up (En.plc l s))) := by
  have HSt : Hid (∀ W, Below w.heap.size w W → ∀ p : Nat, p ≤ l.length → Calls Tryz.prog 64 #[.slice A l.length c, .slice A2 s.length c2, .int .i64 p] W fun e w' => e = .returned (.bool (En.stands l s p)) ∧ W = w') := Lib.hid fun W hW p hp => refStands_any A A2 c c2 l s p W (hr.on hW) (hr2.on hW) hn hs hp
  have HE : Hid (plk l s l.length = En.plc l s) := Lib.hid rfl
  have HP := Lib.hid (plk_succ l s)
  have HL := Lib.hid (plk_len l s)
  clear hr hr2
  generalize hN : l.length = N at *
  clear hN
  generalize s.length = n2 at *
  go_enter Tryz.func37, Tryz.ntmps37
  go_wp2
  go_loopw [5, 9] (fun s5 t W => ∃ k : Nat, k ≤ N ∧ t = .int .i64 k ∧ OL w (up (plk l s k)) s5 W) (fun _ t _ => N - (intOf t).toNat)
  case atStart => exact ⟨0, Nat.zero_le _, rfl, by simpa [plk, up] using OL.nil w w (Below.refl _ _)⟩
  case round =>
    obtain ⟨k, hk, rfl, J⟩ := hrel
    by_cases hlt : k < N
    · have hlz : (k : Int) < (N : Int) := by omega
      have HC := Lib.hid (HSt.out wr J.old k hk)
      have HPk := Lib.hid (HP.out k)
      have hl := HL.out k
      generalize En.stands l s k = r at *
      clear HSt HP HL HE
      cases r with
      | false =>
        have HPn : Hid (plk l s (k + 1) = plk l s k) := Lib.hid (by rw [HPk.out]; simp)
        clear HPk
        go_wp2_with fail
        with_reducible refine HC.out.mono ?_
        rintro e w' ⟨rfl, rfl⟩
        clear HC
        go_wp2
        go_roundw
        case rel => exact ⟨k + 1, by omega, by go_num, by rw [HPn.out]; exact J⟩
        case measure => simp [intOf]; omega
      | true =>
        have HPn : Hid (up (plk l s (k + 1)) = up (plk l s k) ++ [(k : Int)]) := Lib.hid (by rw [HPk.out, if_pos rfl, up_append]; rfl)
        have hl2 : (up (plk l s k)).length ≤ 150 := by rw [up_len]; omega
        clear HPk
        generalize up (plk l s k) = L at *
        have J1 := J.on ((Below.refl _ _).alloc (Nat.le_refl _) (.cells #[.int .i64 k] 3))
        have hmx : L.length + 1 ≤ maxLen := by unfold maxLen; omega
        have hsz := J1.old.size
        obtain ⟨Y, cy, hy, _⟩ := own_slice J.own
        subst hy
        go_wp2_with fail
        with_reducible refine HC.out.mono ?_
        rintro e w' ⟨rfl, rfl⟩
        clear HC
        go_wp2_with (at_builtin; refine wpList_app1 _ rfl _ _ 22 rfl w.heap.size 3 (.int .i64 0) 8 Tryz.underlying22 infoInt4 rfl _ L.length (L.map (Value.int .i64)) rfl _ (.int .i64 k) rfl J1.own (new1 _ _ _) (by simp) rfl hmx (by omega) hsz ?_; intro v' w2 h2 h3 _; have J2 := J1.app (k : Int) h2 h3)
        go_roundw
        case rel => exact ⟨k + 1, by omega, by go_num, by rw [HPn.out]; exact J2⟩
        case measure => simp [intOf]; omega
    · obtain rfl : k = N := by omega
      rw [HE.out] at J
      obtain ⟨Y, cy, hy, _⟩ := own_slice J.own
      subst hy
      have hI := J.ints
      clear HSt HP HL HE J
      go_wp2
      go_ret
      exact hI

end Go.Proofs.YtoejenejleocdabGreatDoor

/- The reference's rising: each number once, by order. -/
namespace Go.Proofs.YtoejenejleocdabGreatDoor
open Go.RowKit
attribute [local irreducible] Bt.pop Bt.popF

theorem rising_eqI : ∀ {x y : List Int}, x.Pairwise (· < ·) → y.Pairwise (· < ·) → (∀ a, a ∈ x ↔ a ∈ y) → x = y
  | [], [], _, _, _ => rfl
  | [], b :: y, _, _, h => by have := (h b).2 (by simp); simp at this
  | a :: x, [], _, _, h => by have := (h a).1 (by simp); simp at this
  | a :: x, b :: y, h1, h2, h => by
    obtain ⟨h1a, h1b⟩ := List.pairwise_cons.1 h1
    obtain ⟨h2a, h2b⟩ := List.pairwise_cons.1 h2
    have e : a = b := by
      have p1 := (h a).1 (by simp)
      have p2 := (h b).2 (by simp)
      rcases List.mem_cons.1 p1 with p1 | p1
      · exact p1
      · rcases List.mem_cons.1 p2 with p2 | p2
        · exact p2.symm
        · have := h1a b p2
          have := h2a a p1
          omega
    subst e
    rw [rising_eqI h1b h2b (fun c => ?_)]
    constructor
    · intro hc
      have := h1a c hc
      rcases List.mem_cons.1 ((h c).1 (by simp [hc])) with p | p
      · omega
      · exact p
    · intro hc
      have := h2a c hc
      rcases List.mem_cons.1 ((h c).2 (by simp [hc])) with p | p
      · omega
      · exact p
/-- a list with a number put in at a place -/
def hole (R : List Int) (j : Nat) (h : Int) : List Int := R.take j ++ [h] ++ R.drop j
theorem hole_len (R : List Int) (j : Nat) (h : Int) (hj : j ≤ R.length) : (hole R j h).length = R.length + 1 := by simp [hole]; omega
theorem hole_end (R : List Int) (x : Int) : hole R R.length x = R ++ [x] := by simp [hole]
theorem hole_set (R : List Int) (j : Nat) (h x : Int) (hj : j ≤ R.length) : (hole R j h).set j x = hole R j x := by
  unfold hole
  rw [List.append_assoc, List.append_assoc, List.set_append_right _ _ (by rw [List.length_take]; omega), List.length_take, show j - min j R.length = 0 from by omega]
  rfl
theorem hole_down (R : List Int) (j : Nat) (hj : j + 1 ≤ R.length) : hole R (j + 1) (R.getD j 0) = hole R j (R.getD j 0) := by
  have hj' : j < R.length := by omega
  unfold hole
  rw [List.take_succ_eq_append_getElem hj', List.drop_eq_getElem_cons hj']
  simp [hj']
theorem hole_get (R : List Int) (j i : Nat) (h : Int) (hi : i < j) (hj : j ≤ R.length) : (hole R j h).getD i 0 = R.getD i 0 := by
  unfold hole
  rw [List.append_assoc, List.getD_eq_getElem?_getD, List.getElem?_append_left (by rw [List.length_take]; omega), List.getElem?_take, if_pos hi, List.getD_eq_getElem?_getD]
theorem hole_mem (R : List Int) (j : Nat) (x a : Int) : a ∈ hole R j x ↔ a ∈ R ∨ a = x := by
  unfold hole
  rw [List.mem_append, List.mem_append, List.mem_singleton]
  have : a ∈ R ↔ a ∈ R.take j ∨ a ∈ R.drop j := by rw [← List.mem_append, List.take_append_drop]
  rw [this]
  constructor
  · rintro ((h | h) | h)
    · exact .inl (.inl h)
    · exact .inr h
    · exact .inl (.inr h)
  · rintro ((h | h) | h)
    · exact .inl (.inl h)
    · exact .inr h
    · exact .inl (.inr h)
theorem hole_sorted (R : List Int) (j : Nat) (x : Int) (hR : R.Pairwise (· < ·)) (hj : j ≤ R.length) (h1 : ∀ i, i < j → R.getD i 0 < x) (h2 : ∀ i, j ≤ i → i < R.length → x < R.getD i 0) : (hole R j x).Pairwise (· < ·) := by
  unfold hole
  have ht : ∀ a ∈ R.take j, a < x := fun a ha => by
    obtain ⟨i, hi, rfl⟩ := List.getElem_of_mem ha
    rw [List.length_take] at hi
    rw [List.getElem_take]
    have := h1 i (by omega)
    rwa [show R.getD i 0 = R[i] from by simp [show i < R.length by omega]] at this
  have hd : ∀ a ∈ R.drop j, x < a := fun a ha => by
    obtain ⟨i, hi, rfl⟩ := List.getElem_of_mem ha
    rw [List.length_drop] at hi
    rw [List.getElem_drop]
    have := h2 (j + i) (by omega) (by omega)
    rwa [show R.getD (j + i) 0 = R[j + i] from by simp [show j + i < R.length by omega]] at this
  rw [List.pairwise_append, List.pairwise_append]
  refine ⟨⟨hR.sublist (List.take_sublist _ _), List.pairwise_singleton _ _, fun a ha b hb => ?_⟩, hR.sublist (List.drop_sublist _ _), fun a ha b hb => ?_⟩
  · rw [List.mem_singleton] at hb; subst hb; exact ht a ha
  · have := hd b hb
    rcases List.mem_append.1 ha with ha | ha
    · have := ht a ha; omega
    · rw [List.mem_singleton] at ha; subst ha; exact this
/-- a row of the call's own, a number put into it -/
theorem OL.put {w : World} {L : List Int} {g n cap : Nat} {W : World} (h : OL w L (.slice (some ⟨g, 0, none⟩) n cap) W) (hn : n = L.length) (j : Nat) (x : Int) : OL w (L.set j x) (.slice (some ⟨g, 0, none⟩) n cap) (W.setCell ⟨g, j, none⟩ (.int .i64 x)) := by
  have ho := h.own
  rw [← hn] at ho
  have h1 := (ho.stored j (.int .i64 x)).1
  refine ⟨?_, h.old.setCell (p := ⟨g, j, none⟩) (ho.lt g rfl).1 _⟩
  rw [List.length_set, ← hn]
  rw [← List.map_set] at h1
  exact h1
theorem OL.cellL {w : World} {L : List Int} {g n cap : Nat} {W : World} (h : OL w L (.slice (some ⟨g, 0, none⟩) n cap) W) (hn : n = L.length) (j : Nat) (hj : j < n) : W.cell? ⟨g, j, none⟩ = some (.int .i64 (L.getD j 0)) ∧ W.frozen? ⟨g, j, none⟩ = false := by
  have ho := h.own
  rw [← hn] at ho
  refine ⟨?_, ho.frozenAt j⟩
  rw [ho.cellAt j (by omega)]
  simp [show j < L.length by omega]

/-- rising, each of the first k -/
structure Rs (L : List Int) (k : Nat) (R : List Int) : Prop where
  up : R.Pairwise (· < ·)
  mem : ∀ a, a ∈ R ↔ a ∈ L.take k
  len : R.length ≤ k
theorem Rs.known {L : List Int} {k : Nat} {R : List Int} (h : Rs L k R) (hk : k < L.length) (hx : L.getD k 0 ∈ R) : Rs L (k + 1) R := by
  refine ⟨h.up, fun a => ?_, by have := h.len; omega⟩
  rw [List.take_succ_eq_append_getElem hk, List.mem_append, List.mem_singleton, ← h.mem]
  rw [show L.getD k 0 = L[k] from by simp [hk]] at hx
  constructor
  · exact .inl
  · rintro (h1 | h1)
    · exact h1
    · rw [h1]; exact hx
theorem Rs.put {L : List Int} {k : Nat} {R : List Int} (h : Rs L k R) (hk : k < L.length) (j : Nat) (hj : j ≤ R.length) (hx : L.getD k 0 ∉ R) (h1 : 0 < j → R.getD (j - 1) 0 ≤ L.getD k 0) (h2 : ∀ i, j ≤ i → i < R.length → L.getD k 0 < R.getD i 0) : Rs L (k + 1) (hole R j (L.getD k 0)) := by
  refine ⟨hole_sorted R j _ h.up hj (fun i hi => ?_) h2, fun a => ?_, by rw [hole_len R j _ hj]; have := h.len; omega⟩
  · have hi' : i < R.length := by omega
    have e1 : R.getD i 0 ∈ R := by rw [show R.getD i 0 = R[i] from by simp [hi']]; exact List.getElem_mem hi'
    have h3 := h1 (by omega)
    have h4 : R.getD i 0 ≤ R.getD (j - 1) 0 := by
      by_cases e : i = j - 1
      · rw [e]; omega
      · have := List.pairwise_iff_getElem.1 h.up i (j - 1) hi' (by omega) (by omega)
        rw [show R.getD i 0 = R[i] from by simp [hi'], show R.getD (j - 1) 0 = R[j - 1] from by simp [show j - 1 < R.length by omega]]
        omega
    have h5 : R.getD i 0 ≠ L.getD k 0 := fun e => hx (by rw [← e]; exact e1)
    omega
  · rw [hole_mem, h.mem, List.take_succ_eq_append_getElem hk, List.mem_append, List.mem_singleton, show L.getD k 0 = L[k] from by simp [hk]]
theorem mem_take_succ {R : List Int} {q : Nat} (x : Int) (h : q < R.length) : (R.take (q + 1)).contains x = ((R.take q).contains x || (R.getD q 0 == x)) := by
  rw [List.take_succ_eq_append_getElem h, show R.getD q 0 = R[q] from by simp [h], Bool.eq_iff_iff, Bool.or_eq_true, List.contains_iff_mem, List.contains_iff_mem, List.mem_append, List.mem_singleton, beq_iff_eq]
  constructor
  · rintro (h1 | h1)
    · exact .inl h1
    · exact .inr h1.symm
  · rintro (h1 | h1)
    · exact .inl h1
    · exact .inr h1.symm

set_option maxHeartbeats 4000000 in
theorem rising_any (A : Option Addr) (c : Nat) (L T : List Int) (w : World) (hr : IRow w w.heap.size A L) (hn : L.length ≤ 150) (hT : T.Pairwise (· < ·)) (hm : ∀ a, a ∈ T ↔ a ∈ L) :
    Calls Tryz.prog 113 #[.slice A L.length c] w (Ints w T) := by
  have HA : Hid (∀ W, Below w.heap.size w W → ∀ i, i < L.length → ∃ b o, A = some ⟨b, o, none⟩ ∧ W.cell? ⟨b, o + i, none⟩ = some (.int .i64 (L.getD i 0))) := Lib.hid fun W hW i hi => irow_at' (hr.on hW) i hi
  have HE : Hid (∀ R, Rs L L.length R → R = T) := Lib.hid fun R h => rising_eqI h.up hT (fun a => by rw [h.mem, List.take_length, hm])
  have HKn := Lib.hid (fun k R (h : Rs L k R) hk hx => Rs.known h hk hx)
  have HPt := Lib.hid (fun k R (h : Rs L k R) hk j hj hx h1 h2 => Rs.put h hk j hj hx h1 h2)
  have HR0 : Hid (Rs L 0 []) := Lib.hid ⟨List.Pairwise.nil, fun a => by simp, Nat.le_refl _⟩
  clear hr hT hm
  generalize hN : L.length = N at *
  clear hN
  go_enter Tryz.func113, Tryz.ntmps113
  go_wp2
  go_loopw [3, 12] (fun s3 t W => ∃ (k : Nat) (R : List Int), k ≤ N ∧ t = .int .i64 k ∧ Hid (Rs L k R) ∧ OL w R s3 W) (fun _ t _ => N - (intOf t).toNat)
  case atStart => exact ⟨0, [], Nat.zero_le _, rfl, HR0, OL.nil w w (Below.refl _ _)⟩
  case round =>
    obtain ⟨k, R, hk, rfl, HR, J⟩ := hrel
    generalize wr = V at *
    by_cases hlt : k < N
    · have hlz : (k : Int) < (N : Int) := by omega
      obtain ⟨b, o, rfl, d1⟩ := HA.out V J.old k hlt
      have HK1 := Lib.hid (HKn.out k R HR.out hlt)
      have HP1 := Lib.hid (HPt.out k R HR.out hlt)
      have hRl := HR.out.len
      generalize L.getD k 0 = x at *
      clear HKn HPt HR HE HR0
      obtain ⟨Y, cy, hy, _⟩ := own_slice J.own
      subst hy
      have HI := Lib.hid J.ints
      have HRow : Hid (∀ i, i < R.length → ∃ b' o', Y = some ⟨b', o', none⟩ ∧ V.cell? ⟨b', o' + i, none⟩ = some (.int .i64 (R.getD i 0))) := Lib.hid fun i hi => by
        obtain ⟨X, cx, h1, h2, h3⟩ := HI.out
        injection h1 with h1
        injection h1 with h1
        subst h1
        exact irow_at' h2 i hi
      have HTk := Lib.hid (fun q hq => mem_take_succ (R := R) (q := q) x hq)
      generalize hrl : R.length = m at *
      have Hm := Lib.hid hrl
      clear hrl HI
      go_wp2
      go_loopw [7, 20] (fun s7 t W => ∃ q : Nat, q ≤ m ∧ t = .int .i64 q ∧ s7 = .bool ((R.take q).contains x) ∧ W = V) (fun _ t _ => m - (intOf t).toNat)
      case atStart => exact ⟨0, Nat.zero_le _, rfl, by simp, rfl⟩
      case round =>
        obtain ⟨q, hq, rfl, rfl, rfl⟩ := hrel
        by_cases hlt2 : q < m
        · have hlz2 : (q : Int) < (m : Int) := by omega
          obtain ⟨b2, o2, rfl, d2⟩ := HRow.out q hlt2
          have HT1 := Lib.hid (HTk.out q hlt2)
          generalize R.getD q 0 = y at *
          generalize hbb : (R.take q).contains x = bb at *
          clear hbb
          clear HTk HRow HK1 HP1
          cases bb with
          | true =>
            go_wp2
            go_roundw
            case rel => exact ⟨q + 1, by omega, by go_num, by rw [HT1.out]; rfl, by first | rfl | trivial⟩
            case measure => simp [intOf]; omega
          | false =>
            go_wp2
            go_roundw
            case rel => exact ⟨q + 1, by omega, by go_num, by rw [HT1.out, Bool.false_or], by first | rfl | trivial⟩
            case measure => simp [intOf]; omega
        · obtain rfl : q = m := by omega
          rw [show (R.take q).contains x = R.contains x from by rw [← Hm.out, List.take_length]]
          cases hcx : R.contains x with
          | true =>
            have HK2 := Lib.hid (HK1.out (by simpa using hcx))
            clear HTk HRow HK1 HP1 hcx
            go_wp2
            go_roundw
            case rel => exact ⟨k + 1, R, by omega, by go_num, HK2.out, J⟩
            case measure => simp [intOf]; omega
          | false =>
            have hnx : x ∉ R := by simpa using hcx
            have HP2 := Lib.hid (fun j hj => HP1.out j hj hnx)
            have J1 := J.on ((Below.refl _ _).alloc (Nat.le_refl _) (.cells #[.int .i64 x] 3))
            have hmx : q + 1 ≤ maxLen := by unfold maxLen; omega
            have hsz := J1.old.size
            have J1o := J1.own
            rw [Hm.out] at J1o
            clear HTk HRow HK1 HP1 hcx hnx
            go_wp2_with (at_builtin; refine wpList_app1 _ rfl _ _ 22 rfl w.heap.size 3 (.int .i64 0) 8 Tryz.underlying22 infoInt4 rfl _ q (R.map (Value.int .i64)) rfl _ (.int .i64 x) rfl J1o (new1 _ _ _) (by simp) rfl hmx (by omega) hsz ?_; intro v' w2 h2 h3 _; rw [← Hm.out] at h2; have J2 := J1.app x h2 h3; rw [← hole_end, Hm.out] at J2; obtain ⟨g, cap, hv, _, _⟩ := J2.own.form (by rw [hole_len R q x (by rw [Hm.out]; omega)]; omega); rw [hole_len R q x (by rw [Hm.out]; omega), Hm.out] at hv; subst hv)
            go_loopw [6] (fun s6 W => ∃ (j : Nat) (h : Int), j ≤ q ∧ s6 = .int .i64 j ∧ Hid (∀ i, j ≤ i → i < q → x < R.getD i 0) ∧ OL w (hole R j h) (.slice (some ⟨g, 0, none⟩) (q + 1) cap) W) (fun s6 _ => (intOf s6).toNat)
            case atStart => exact ⟨q, x, Nat.le_refl _, rfl, Lib.hid (fun i h4 h5 => absurd h5 (by omega)), J2⟩
            case round =>
              clear J2 J1 J1o h2 h3 hsz J
              obtain ⟨j, h, hj, rfl, HG, J⟩ := hrel
              have hlen : q + 1 = (hole R j h).length := by rw [hole_len R j h (by rw [Hm.out]; exact hj), Hm.out]
              have HL1 := Lib.hid hlen
              clear hlen
              by_cases hj0 : 0 < j
              · obtain ⟨j', rfl⟩ : ∃ j', j = j' + 1 := ⟨j - 1, by omega⟩
                obtain ⟨c1, _⟩ := J.cellL HL1.out j' (by omega)
                rw [hole_get R (j' + 1) j' h (by omega) (by rw [Hm.out]; exact hj)] at c1
                obtain ⟨c2, f2⟩ := J.cellL HL1.out (j' + 1) (by omega)
                by_cases hgt : x < R.getD j' 0
                · have J3 := J.put HL1.out (j' + 1) (R.getD j' 0)
                  rw [hole_set R (j' + 1) h _ (by rw [Hm.out]; exact hj), hole_down R j' (by rw [Hm.out]; exact hj)] at J3
                  have HG2 : Hid (∀ i, j' ≤ i → i < q → x < R.getD i 0) := Lib.hid fun i h4 h5 => by
                    by_cases e : i = j'
                    · rw [e]; exact hgt
                    · exact HG.out i (by omega) h5
                  generalize R.getD j' 0 = y at *
                  generalize (hole R (j' + 1) h).getD (j' + 1) 0 = z at *
                  have z1 : (0 : Int) < (j' : Int) + 1 := by omega
                  clear HG HP2 J
                  go_wp2
                  go_roundw
                  case rel => exact ⟨j', y, by omega, by go_num, HG2, J3⟩
                  case measure => simp [intOf]
                · have J3 := J.put HL1.out (j' + 1) x
                  rw [hole_set R (j' + 1) h _ (by rw [Hm.out]; exact hj)] at J3
                  have HR3 := Lib.hid (HP2.out (j' + 1) hj (fun _ => by rw [Nat.add_sub_cancel]; omega) (fun i h4 h5 => HG.out i h4 h5))
                  generalize R.getD j' 0 = y at *
                  generalize (hole R (j' + 1) h).getD (j' + 1) 0 = z at *
                  have z1 : (0 : Int) < (j' : Int) + 1 := by omega
                  clear HG HP2 J
                  go_wp2
                  go_roundw
                  case rel => exact ⟨k + 1, _, by omega, by go_num, HR3.out, J3⟩
                  case measure => simp [intOf]; omega
              · obtain rfl : j = 0 := by omega
                obtain ⟨c2, f2⟩ := J.cellL HL1.out 0 (by omega)
                have J3 := J.put HL1.out 0 x
                rw [hole_set R 0 h _ (Nat.zero_le _)] at J3
                have HR3 := Lib.hid (HP2.out 0 (Nat.zero_le _) (fun h => absurd h (by omega)) (fun i h4 h5 => HG.out i h4 h5))
                generalize (hole R 0 h).getD 0 0 = z at *
                clear HG HP2 J
                go_wp2
                go_roundw
                case rel => exact ⟨k + 1, _, by omega, by go_num, HR3.out, J3⟩
                case measure => simp [intOf]; omega
    · obtain rfl : k = N := by omega
      obtain rfl := HE.out R HR.out
      have hI := J.ints
      obtain ⟨Y, cy, hy, _⟩ := own_slice J.own
      subst hy
      clear HA HE HKn HPt HR0 HR J
      go_wp2
      go_ret
      exact hI

end Go.Proofs.YtoejenejleocdabGreatDoor

/- The reference's BeforesOf, BehindsOf. -/
namespace Go.Proofs.YtoejenejleocdabGreatDoor
open Go.RowKit
attribute [local irreducible] Bt.pop Bt.popF

/-- what stands ahead of the places, behind them -/
def bfL (l s : List Int) (k : Nat) : List Int := ((En.plc l s).take k).map fun p => l.getD (En.prv l p) 0
def bhL (l s : List Int) (k : Nat) : List Int := (((En.plc l s).take k).filter fun p => decide (p + s.length < l.length)).map fun p => l.getD (p + s.length) 0
theorem bfL_succ (l s : List Int) (k : Nat) (h : k < (En.plc l s).length) : bfL l s (k + 1) = bfL l s k ++ [l.getD (En.prv l ((En.plc l s).getD k 0)) 0] := by
  unfold bfL
  rw [List.take_succ_eq_append_getElem h, List.map_append]
  simp [h]
theorem bhL_succ (l s : List Int) (k : Nat) (h : k < (En.plc l s).length) : bhL l s (k + 1) = bhL l s k ++ if (En.plc l s).getD k 0 + s.length < l.length then [l.getD ((En.plc l s).getD k 0 + s.length) 0] else [] := by
  unfold bhL
  rw [List.take_succ_eq_append_getElem h, List.filter_append, List.map_append, show (En.plc l s).getD k 0 = (En.plc l s)[k] from by simp [h]]
  congr 1
  rw [List.filter_cons, List.filter_nil]
  by_cases hc : (En.plc l s)[k] + s.length < l.length
  · rw [if_pos (by simpa using hc), if_pos hc]; rfl
  · rw [if_neg (by simpa using hc), if_neg hc]; rfl
theorem bfL_len (l s : List Int) (k : Nat) : (bfL l s k).length ≤ k := by unfold bfL; rw [List.length_map, List.length_take]; omega
theorem bhL_len (l s : List Int) (k : Nat) : (bhL l s k).length ≤ k := by
  unfold bhL
  rw [List.length_map]
  exact Nat.le_trans (List.length_filter_le _ _) (by rw [List.length_take]; omega)
theorem up_rising {K : List Nat} (h : K.Pairwise (· < ·)) : (up K).Pairwise (· < ·) := by
  unfold up
  rw [List.pairwise_map]
  exact h.imp fun h => by omega
theorem up_mem (K : List Nat) (a : Int) : a ∈ up K ↔ ∃ v ∈ K, (v : Int) = a := by unfold up; rw [List.mem_map]
theorem bfL_mem {l : List Int} (hg : En.Sg l) (s : List Int) (a : Int) : a ∈ up (En.bfr l s) ↔ a ∈ bfL l s (En.plc l s).length := by
  unfold bfL
  rw [up_mem, List.take_length, List.mem_map]
  constructor
  · rintro ⟨v, hv, rfl⟩
    obtain ⟨p, hp, he⟩ := (En.bfr_mem l s v).1 hv
    exact ⟨p, hp, he⟩
  · rintro ⟨p, hp, he⟩
    have := hg.nn (En.prv l p)
    exact ⟨a.toNat, (En.bfr_mem l s _).2 ⟨p, hp, by omega⟩, by omega⟩
theorem bhL_mem {l : List Int} (hg : En.Sg l) (s : List Int) (a : Int) : a ∈ up (En.bhd l s) ↔ a ∈ bhL l s (En.plc l s).length := by
  unfold bhL
  rw [up_mem, List.take_length, List.mem_map]
  constructor
  · rintro ⟨v, hv, rfl⟩
    obtain ⟨p, hp, h1, he⟩ := (En.bhd_mem l s v).1 hv
    exact ⟨p, List.mem_filter.2 ⟨hp, by simpa using h1⟩, he⟩
  · rintro ⟨p, hp, he⟩
    rw [List.mem_filter, decide_eq_true_eq] at hp
    have := hg.nn (p + s.length)
    exact ⟨a.toNat, (En.bhd_mem l s _).2 ⟨p, hp.1, hp.2, by omega⟩, by omega⟩
theorem plc_get_lt (l s : List Int) (i : Nat) (hi : i < (En.plc l s).length) : (En.plc l s).getD i 0 < l.length := by
  have h1 : (En.plc l s).getD i 0 ∈ En.plc l s := by
    rw [show (En.plc l s).getD i 0 = (En.plc l s)[i] from by simp [hi]]
    exact List.getElem_mem hi
  exact ((En.plc_mem l s _).1 h1).1
theorem plc_le' (l s : List Int) : (En.plc l s).length ≤ l.length := Nat.le_trans (List.length_filter_le _ _) (by simp)
theorem up_get' (K : List Nat) (i : Nat) : (up K).getD i 0 = ((K.getD i 0 : Nat) : Int) := by
  unfold up
  simp only [List.getD_eq_getElem?_getD, List.getElem?_map]
  cases K[i]? <;> rfl
theorem prv_rem (p N : Nat) (hp : p < N) (l : List Int) (hN : l.length = N) : ((p : Int) + (N : Int) - 1) % (N : Int) = ((En.prv l p : Nat) : Int) ∧ En.prv l p < N := by
  unfold En.prv
  rw [hN]
  by_cases h0 : p = 0
  · subst h0
    rw [if_pos rfl]
    refine ⟨?_, by omega⟩
    rw [Int.emod_eq_of_lt (by omega) (by omega)]
    omega
  · rw [if_neg h0]
    refine ⟨?_, by omega⟩
    rw [show (p : Int) + (N : Int) - 1 = ((p - 1 : Nat) : Int) + (N : Int) from by omega, Int.add_emod_right, Int.emod_eq_of_lt (by omega) (by omega)]

set_option maxHeartbeats 2000000 in
theorem beforesOf_any (A A2 : Option Addr) (c c2 : Nat) (l s : List Int) (w : World) (hr : IRow w w.heap.size A l) (hr2 : IRow w w.heap.size A2 s) (hg : En.Sg l) (hn : l.length ≤ 150) (hs : s.length ≤ 17592186044416) :
    Calls Tryz.prog 84 #[.slice A l.length c, .slice A2 s.length c2] w (Ints w (up (En.bfr l s))) := by
  have HP := Lib.hid (placesOf_any A A2 c c2 l s w hr hr2 hn hs)
  have HA : Hid (∀ W, Below w.heap.size w W → ∀ i, i < l.length → ∃ b o, A = some ⟨b, o, none⟩ ∧ W.cell? ⟨b, o + i, none⟩ = some (.int .i64 (l.getD i 0))) := Lib.hid fun W hW i hi => irow_at' (hr.on hW) i hi
  have hpl := plc_le' l s
  have HRi : Hid (∀ W (Y : Option Addr) (cy : Nat), IRow W W.heap.size Y (bfL l s (En.plc l s).length) → Calls Tryz.prog 113 #[.slice Y (bfL l s (En.plc l s).length).length cy] W (Ints W (up (En.bfr l s)))) := Lib.hid fun W Y cy hY => rising_any Y cy _ _ W hY (Nat.le_trans (bfL_len _ _ _) (by omega)) (up_rising (En.bfr_rising l s)) (bfL_mem hg s)
  have HS := Lib.hid (bfL_succ l s)
  have HL := Lib.hid (bfL_len l s)
  have HG := Lib.hid (up_get' (En.plc l s))
  have HLt := Lib.hid (plc_get_lt l s)
  have HU := Lib.hid (up_len (En.plc l s))
  have HRm : Hid (∀ p, p < l.length → ((p : Int) + (l.length : Int) - 1) % (l.length : Int) = ((En.prv l p : Nat) : Int) ∧ En.prv l p < l.length) := Lib.hid fun p hp => prv_rem p l.length hp l rfl
  clear hr hr2 hg
  generalize hN : l.length = N at *
  clear hN
  generalize s.length = n2 at *
  generalize hm : (En.plc l s).length = m at *
  clear hm
  go_enter Tryz.func84, Tryz.ntmps84
  go_wp2_with fail
  with_reducible refine HP.out.mono ?_
  rintro e w1 ⟨X, cx, rfl, hX, hb1⟩
  rw [HU.out]
  clear HP
  go_wp2
  go_loopw [5, 12] (fun s5 t W => ∃ k : Nat, k ≤ m ∧ t = .int .i64 k ∧ OL w1 (bfL l s k) s5 W) (fun _ t _ => m - (intOf t).toNat)
  case atStart => exact ⟨0, Nat.zero_le _, rfl, by simpa [bfL] using OL.nil w1 w1 (Below.refl _ _)⟩
  case round =>
    obtain ⟨k, hk, rfl, J⟩ := hrel
    by_cases hlt : k < m
    · have hlz : (k : Int) < (m : Int) := by omega
      obtain ⟨b1, o1, rfl, d1⟩ := irow_at' (hX.on J.old) k (by rw [HU.out]; exact hlt)
      rw [HG.out] at d1
      have HS1 := Lib.hid (HS.out k hlt)
      have hpN := HLt.out k hlt
      generalize (En.plc l s).getD k 0 = p at *
      obtain ⟨e1, hq⟩ := HRm.out p hpN
      generalize En.prv l p = q at *
      obtain ⟨b2, o2, rfl, d2⟩ := HA.out wr (hb1.trans (J.old.mono hb1.size)) q hq
      have hl1 := HL.out k
      generalize l.getD q 0 = x at *
      generalize bfL l s k = L at *
      have J1 := J.on ((Below.refl _ _).alloc (Nat.le_refl _) (.cells #[.int .i64 x] 3))
      have hmx : L.length + 1 ≤ maxLen := by unfold maxLen; omega
      have hsz := J1.old.size
      obtain ⟨Y, cy, hy, _⟩ := own_slice J.own
      subst hy
      have e2 : ((p : Int) + (N : Int) - 1).tmod (N : Int) = (q : Int) := by rw [Int.tmod_eq_emod_of_nonneg (by omega)]; exact e1
      have hqz : (q : Int) < (N : Int) := by omega
      have hN0 : ((N : Int) == 0) = false := by simp; omega
      clear HS HL HG HLt HRm HA HRi
      go_wp2_with (at_builtin; refine wpList_app1 _ rfl _ _ 22 rfl w1.heap.size 3 (.int .i64 0) 8 Tryz.underlying22 infoInt4 rfl _ L.length (L.map (Value.int .i64)) rfl _ (.int .i64 x) rfl J1.own (new1 _ _ _) (by simp) rfl hmx (by omega) hsz ?_; intro v' w2 h2 h3 _; have J2 := J1.app x h2 h3)
      go_roundw
      case rel => exact ⟨k + 1, by omega, by go_num, by rw [HS1.out]; exact J2⟩
      case measure => simp [intOf]; omega
    · obtain rfl : k = m := by omega
      obtain ⟨Y, cy, hy, hI, hold⟩ := J.ints
      injection hy with hy
      have HR1 := Lib.hid (HRi.out wr Y cy hI)
      have hb2 := hb1.trans (hold.mono hb1.size)
      generalize (bfL l s k).length = n9 at *
      subst hy
      clear HS HL HG HLt HRm HA HRi J hI
      go_wp2_with fail
      with_reducible refine HR1.out.mono ?_
      rintro e w3 ⟨Z, cz, rfl, hZ, hb3⟩
      clear HR1
      go_wp2
      go_ret
      exact ⟨Z, cz, rfl, hZ, hb2.trans (hb3.mono hb2.size)⟩

set_option maxHeartbeats 2000000 in
theorem behindsOf_any (A A2 : Option Addr) (c c2 : Nat) (l s : List Int) (w : World) (hr : IRow w w.heap.size A l) (hr2 : IRow w w.heap.size A2 s) (hg : En.Sg l) (hn : l.length ≤ 150) (hs : s.length ≤ 17592186044416) :
    Calls Tryz.prog 83 #[.slice A l.length c, .slice A2 s.length c2] w (Ints w (up (En.bhd l s))) := by
  have HP := Lib.hid (placesOf_any A A2 c c2 l s w hr hr2 hn hs)
  have HA : Hid (∀ W, Below w.heap.size w W → ∀ i, i < l.length → ∃ b o, A = some ⟨b, o, none⟩ ∧ W.cell? ⟨b, o + i, none⟩ = some (.int .i64 (l.getD i 0))) := Lib.hid fun W hW i hi => irow_at' (hr.on hW) i hi
  have hpl := plc_le' l s
  have HRi : Hid (∀ W (Y : Option Addr) (cy : Nat), IRow W W.heap.size Y (bhL l s (En.plc l s).length) → Calls Tryz.prog 113 #[.slice Y (bhL l s (En.plc l s).length).length cy] W (Ints W (up (En.bhd l s)))) := Lib.hid fun W Y cy hY => rising_any Y cy _ _ W hY (Nat.le_trans (bhL_len _ _ _) (by omega)) (up_rising (En.bhd_rising l s)) (bhL_mem hg s)
  have HS := Lib.hid (bhL_succ l s)
  have HL := Lib.hid (bhL_len l s)
  have HG := Lib.hid (up_get' (En.plc l s))
  have HLt := Lib.hid (plc_get_lt l s)
  have HU := Lib.hid (up_len (En.plc l s))
  clear hr hr2 hg
  generalize hN : l.length = N at *
  clear hN
  generalize s.length = n2 at *
  generalize hm : (En.plc l s).length = m at *
  clear hm
  go_enter Tryz.func83, Tryz.ntmps83
  go_wp2_with fail
  with_reducible refine HP.out.mono ?_
  rintro e w1 ⟨X, cx, rfl, hX, hb1⟩
  rw [HU.out]
  clear HP
  go_wp2
  go_loopw [5, 12] (fun s5 t W => ∃ k : Nat, k ≤ m ∧ t = .int .i64 k ∧ OL w1 (bhL l s k) s5 W) (fun _ t _ => m - (intOf t).toNat)
  case atStart => exact ⟨0, Nat.zero_le _, rfl, by simpa [bhL] using OL.nil w1 w1 (Below.refl _ _)⟩
  case round =>
    obtain ⟨k, hk, rfl, J⟩ := hrel
    by_cases hlt : k < m
    · have hlz : (k : Int) < (m : Int) := by omega
      obtain ⟨b1, o1, rfl, d1⟩ := irow_at' (hX.on J.old) k (by rw [HU.out]; exact hlt)
      rw [HG.out] at d1
      have HS1 := Lib.hid (HS.out k hlt)
      have hpN := HLt.out k hlt
      generalize (En.plc l s).getD k 0 = p at *
      have hl1 := HL.out k
      by_cases hfit : p + n2 < N
      · obtain ⟨b2, o2, rfl, d2⟩ := HA.out wr (hb1.trans (J.old.mono hb1.size)) (p + n2) hfit
        have HS2 := Lib.hid (show bhL l s (k + 1) = bhL l s k ++ [l.getD (p + n2) 0] from by rw [HS1.out, if_pos hfit])
        generalize l.getD (p + n2) 0 = x at *
        generalize bhL l s k = L at *
        have J1 := J.on ((Below.refl _ _).alloc (Nat.le_refl _) (.cells #[.int .i64 x] 3))
        have hmx : L.length + 1 ≤ maxLen := by unfold maxLen; omega
        have hsz := J1.old.size
        obtain ⟨Y, cy, hy, _⟩ := own_slice J.own
        subst hy
        have z1 : (p : Int) + (n2 : Int) < (N : Int) := by omega
        have z2 : ((p : Int) + (n2 : Int)).toNat = p + n2 := by omega
        have z3 : (0 : Int) ≤ (p : Int) + (n2 : Int) := by omega
        clear HS HL HG HLt HA HRi HS1
        go_wp2_with (at_builtin; refine wpList_app1 _ rfl _ _ 22 rfl w1.heap.size 3 (.int .i64 0) 8 Tryz.underlying22 infoInt4 rfl _ L.length (L.map (Value.int .i64)) rfl _ (.int .i64 x) rfl J1.own (new1 _ _ _) (by simp) rfl hmx (by omega) hsz ?_; intro v' w2 h2 h3 _; have J2 := J1.app x h2 h3)
        go_roundw
        case rel => exact ⟨k + 1, by omega, by go_num, by rw [HS2.out]; exact J2⟩
        case measure => simp [intOf]; omega
      · have HS2 := Lib.hid (show bhL l s (k + 1) = bhL l s k from by rw [HS1.out, if_neg hfit, List.append_nil])
        have z1 : ¬ ((p : Int) + (n2 : Int) < (N : Int)) := by omega
        clear HS HL HG HLt HA HRi HS1
        go_wp2
        go_roundw
        case rel => exact ⟨k + 1, by omega, by go_num, by rw [HS2.out]; exact J⟩
        case measure => simp [intOf]; omega
    · obtain rfl : k = m := by omega
      obtain ⟨Y, cy, hy, hI, hold⟩ := J.ints
      injection hy with hy
      have HR1 := Lib.hid (HRi.out wr Y cy hI)
      have hb2 := hb1.trans (hold.mono hb1.size)
      generalize (bhL l s k).length = n9 at *
      subst hy
      clear HS HL HG HLt HA HRi J hI
      go_wp2_with fail
      with_reducible refine HR1.out.mono ?_
      rintro e w3 ⟨Z, cz, rfl, hZ, hb3⟩
      clear HR1
      go_wp2
      go_ret
      exact ⟨Z, cz, rfl, hZ, hb2.trans (hb3.mono hb2.size)⟩

end Go.Proofs.YtoejenejleocdabGreatDoor
