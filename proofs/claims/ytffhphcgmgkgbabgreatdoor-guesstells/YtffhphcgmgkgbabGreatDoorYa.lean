/- The reference's stands, PlacesOf, SpanOf. -/
import Derived.Test.YtffhphcgmgkgbabGreatDoorJi
import Derived.Test.YtffhphcgmgkgbabGreatDoorJk
namespace Go.Proofs.YtffhphcgmgkgbabGreatDoor
open Go.RowKit
attribute [local irreducible] Bt.pop Bt.popF

theorem stands_all' (l s : List Int) (p : Nat) (hp : p ≤ l.length) : En.stands l s p = true ↔ p + s.length ≤ l.length ∧ ∀ j, j < s.length → l.getD (p + j) 0 = s.getD j 0 := by
  induction s generalizing p with
  | nil => simp [En.stands]; omega
  | cons x s ih =>
    by_cases h : p < l.length
    · rw [En.stands_cons l s x p h, Bool.and_eq_true, decide_eq_true_eq, ih (p + 1) (by omega)]
      constructor
      · rintro ⟨h1, h2, h3⟩
        refine ⟨by simp only [List.length_cons]; omega, fun j hj => ?_⟩
        cases j with
        | zero => simpa using h1
        | succ j =>
          have := h3 j (by simpa using hj)
          rw [show p + (j + 1) = p + 1 + j from by omega, this]
          rfl
      · rintro ⟨h1, h2⟩
        simp only [List.length_cons] at h1
        refine ⟨by simpa using h2 0 (by simp), by omega, fun j hj => ?_⟩
        have := h2 (j + 1) (by simpa using hj)
        rw [show p + 1 + j = p + (j + 1) from by omega, this]
        rfl
    · obtain rfl : p = l.length := by omega
      simp [En.stands]
      intro h3
      omega
theorem irow_at' {W : World} {B : Nat} {A : Option Addr} {l : List Int} (h : IRow W B A l) (i : Nat) (hi : i < l.length) : ∃ b o, A = some ⟨b, o, none⟩ ∧ W.cell? ⟨b, o + i, none⟩ = some (.int .i64 (l.getD i 0)) := by
  obtain ⟨b, o, e, _, hc⟩ := h (by omega)
  exact ⟨b, o, e, hc i hi⟩

set_option maxHeartbeats 1000000 in
theorem refStands_any (A A2 : Option Addr) (c c2 : Nat) (l s : List Int) (p : Nat) (w : World) (hr : IRow w w.heap.size A l) (hr2 : IRow w w.heap.size A2 s) (hn : l.length ≤ 150) (hs : s.length ≤ 17592186044416) (hp : p ≤ l.length) :
    Calls Tryz.prog 59 #[.slice A l.length c, .slice A2 s.length c2, .int .i64 p] w fun e w' => e = .returned (.bool (En.stands l s p)) ∧ w = w' := by
  have HS := Lib.hid (stands_all' l s p hp)
  have HA := Lib.hid (irow_at' hr)
  have HB := Lib.hid (irow_at' hr2)
  clear hr hr2
  generalize hN : l.length = N at *
  generalize hN2 : s.length = n2 at *
  clear hN hN2
  generalize En.stands l s p = r at *
  by_cases hfit : p + n2 ≤ N
  · have hz : ¬ ((N : Int) < (p : Int) + (n2 : Int)) := by omega
    go_enter Tryz.func59, Tryz.ntmps59
    go_wp2
    go_loop [18] (fun t => ∃ k : Nat, k ≤ n2 ∧ t = .int .i64 k ∧ Hid (∀ j, j < k → l.getD (p + j) 0 = s.getD j 0)) (fun t => n2 - (intOf t).toNat)
    case atStart => exact ⟨0, Nat.zero_le _, rfl, Lib.hid (fun j hj => absurd hj (by omega))⟩
    case round =>
      obtain ⟨k, hk, rfl, HK⟩ := hrel
      by_cases hlt : k < n2
      · have hlz : (k : Int) < (n2 : Int) := by omega
        obtain ⟨b1, o1, rfl, d1⟩ := HA.out (p + k) (by omega)
        obtain ⟨b2, o2, rfl, d2⟩ := HB.out k hlt
        have v2 : ((p : Int) + (k : Int)).toNat = p + k := by omega
        have v3 : (0 : Int) ≤ (p : Int) + (k : Int) := by omega
        have v4 : (p : Int) + (k : Int) < (N : Int) := by omega
        by_cases he : l.getD (p + k) 0 = s.getD k 0
        · have HK2 : Hid (∀ j, j < k + 1 → l.getD (p + j) 0 = s.getD j 0) := Lib.hid fun j hj => by
            by_cases e : j = k
            · rw [e]; exact he
            · exact HK.out j (by omega)
          rw [he] at d1
          generalize s.getD k 0 = x at *
          have t1 : (x != x) = false := by simp
          clear he HK HS HA HB
          go_wp2
          go_round
          case rel => exact ⟨k + 1, by omega, by go_num, HK2⟩
          case measure => simp [intOf]; omega
        · have hr0 : r = false := by
            cases r with
            | false => rfl
            | true => exact absurd ((HS.out.1 rfl).2 k hlt) he
          have t1 : (l.getD (p + k) 0 != s.getD k 0) = true := by simpa using he
          generalize l.getD (p + k) 0 = x at *
          generalize s.getD k 0 = y at *
          subst hr0
          clear he HK HS HA HB
          go_wp2
          go_ret
          exact ⟨rfl, rfl⟩
      · obtain rfl : k = n2 := by omega
        have hr1 : r = true := HS.out.2 ⟨hfit, HK.out⟩
        subst hr1
        clear HK HS HA HB
        go_wp2
        go_ret
        exact ⟨rfl, rfl⟩
  · have hz : (N : Int) < (p : Int) + (n2 : Int) := by omega
    have hr0 : r = false := by
      cases r with
      | false => rfl
      | true => exact absurd (HS.out.1 rfl).1 hfit
    subst hr0
    clear HS HA HB
    go_enter Tryz.func59, Tryz.ntmps59
    go_wp2
    go_ret
    exact ⟨rfl, rfl⟩

/-- the places among the first k -/
def plk (l s : List Int) (k : Nat) : List Nat := (List.range k).filter (En.stands l s)
theorem plk_succ (l s : List Int) (k : Nat) : plk l s (k + 1) = plk l s k ++ if En.stands l s k = true then [k] else [] := by
  unfold plk
  rw [List.range_succ, List.filter_append]
  congr 1
  rw [List.filter_cons, List.filter_nil]
theorem plk_len (l s : List Int) (k : Nat) : (plk l s k).length ≤ k := Nat.le_trans (List.length_filter_le _ _) (by simp)

set_option maxHeartbeats 1000000 in
theorem placesOf_any (A A2 : Option Addr) (c c2 : Nat) (l s : List Int) (w : World) (hr : IRow w w.heap.size A l) (hr2 : IRow w w.heap.size A2 s) (hn : l.length ≤ 150) (hs : s.length ≤ 17592186044416) :
    Calls Tryz.prog 47 #[.slice A l.length c, .slice A2 s.length c2] w (Ints w (up (En.plc l s))) := by
  have HSt : Hid (∀ W, Below w.heap.size w W → ∀ p : Nat, p ≤ l.length → Calls Tryz.prog 59 #[.slice A l.length c, .slice A2 s.length c2, .int .i64 p] W fun e w' => e = .returned (.bool (En.stands l s p)) ∧ W = w') := Lib.hid fun W hW p hp => refStands_any A A2 c c2 l s p W (hr.on hW) (hr2.on hW) hn hs hp
  have HE : Hid (plk l s l.length = En.plc l s) := Lib.hid rfl
  have HP := Lib.hid (plk_succ l s)
  have HL := Lib.hid (plk_len l s)
  clear hr hr2
  generalize hN : l.length = N at *
  clear hN
  generalize s.length = n2 at *
  go_enter Tryz.func47, Tryz.ntmps47
  go_wp2
  go_loopw [5, 9] (fun s5 t W => ∃ k : Nat, k ≤ N ∧ t = .int .i64 k ∧ OL w (up (plk l s k)) s5 W) (fun _ t _ => N - (intOf t).toNat)
  case atStart => exact ⟨0, Nat.zero_le _, rfl, by simpa [plk, up] using OL.nil w w (Below.refl _ _)⟩
  case round =>
    obtain ⟨k, hk, rfl, J⟩ := hrel
    by_cases hlt : k < N
    · have hlz : (k : Int) < (N : Int) := by omega
      have HC := Lib.hid (HSt.out wr J.old k hk)
      have HPk := Lib.hid (HP.out k)
      have hl := HL.out k
      generalize En.stands l s k = r at *
      clear HSt HP HL HE
      cases r with
      | false =>
        have HPn : Hid (plk l s (k + 1) = plk l s k) := Lib.hid (by rw [HPk.out]; simp)
        clear HPk
        go_wp2_with fail
        with_reducible refine HC.out.mono ?_
        rintro e w' ⟨rfl, rfl⟩
        clear HC
        go_wp2
        go_roundw
        case rel => exact ⟨k + 1, by omega, by go_num, by rw [HPn.out]; exact J⟩
        case measure => simp [intOf]; omega
      | true =>
        have HPn : Hid (up (plk l s (k + 1)) = up (plk l s k) ++ [(k : Int)]) := Lib.hid (by rw [HPk.out, if_pos rfl, up_append]; rfl)
        have hl2 : (up (plk l s k)).length ≤ 150 := by rw [up_len]; omega
        clear HPk
        generalize up (plk l s k) = L at *
        have J1 := J.on ((Below.refl _ _).alloc (Nat.le_refl _) (.cells #[.int .i64 k] 3))
        have hmx : L.length + 1 ≤ maxLen := by unfold maxLen; omega
        have hsz := J1.old.size
        obtain ⟨Y, cy, hy, _⟩ := own_slice J.own
        subst hy
        go_wp2_with fail
        with_reducible refine HC.out.mono ?_
        rintro e w' ⟨rfl, rfl⟩
        clear HC
        go_wp2_with (at_builtin; refine wpList_app1 _ rfl _ _ 22 rfl w.heap.size 3 (.int .i64 0) 8 Tryz.underlying22 infoInt4 rfl _ L.length (L.map (Value.int .i64)) rfl _ (.int .i64 k) rfl J1.own (new1 _ _ _) (by simp) rfl hmx (by omega) hsz ?_; intro v' w2 h2 h3 _; have J2 := J1.app (k : Int) h2 h3)
        go_roundw
        case rel => exact ⟨k + 1, by omega, by go_num, by rw [HPn.out]; exact J2⟩
        case measure => simp [intOf]; omega
    · obtain rfl : k = N := by omega
      rw [HE.out] at J
      obtain ⟨Y, cy, hy, _⟩ := own_slice J.own
      subst hy
      have hI := J.ints
      clear HSt HP HL HE J
      go_wp2
      go_ret
      exact hI

end Go.Proofs.YtffhphcgmgkgbabGreatDoor
