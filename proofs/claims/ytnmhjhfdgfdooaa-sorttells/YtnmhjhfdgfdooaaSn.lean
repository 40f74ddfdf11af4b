/- The law SortEnds. -/
import Derived.Test.YtnmhjhfdgfdooaaSl
namespace Go.Proofs.Ytnmhjhfdgfdooaa
open Go.RowKit

theorem infoBool' : (Try.prog.info? 4).map (fun i => (i.zero, i.size, i.bytes)) = some (some (.bool false), 1, 1) := by kernel_rfl

/-- what one end and the one ahead have in common: how far it reaches, that it is alike, and what stands behind it -/
structure Pair (f : Nat → Int) (n was at_ L : Nat) : Prop where
  w1 : was < n
  a1 : at_ < n
  w2 : was + L ≤ n
  a2 : at_ + L ≤ n
  same : ∀ k, k < L → f (at_ + k) = f (was + k)
  less : was + L < n → at_ + L < n ∧ f (was + L) < f (at_ + L)

theorem pair_of (l : List Int) (i : Nat) (h0 : 0 < i) (hi : i < l.length) : Pair (fun k => l.getD k 0) l.length (En.eat l (i - 1)) (En.eat l i) (En.alk l i) := by
  have hw := En.eat_lt l (i - 1) (by omega)
  have ha := En.eat_lt l i hi
  have he := En.eat_elt l (i - 1) i (by omega) hi
  have hL : En.alk l i = En.lcp (l.drop (En.eat l (i - 1))) (l.drop (En.eat l i)) := by unfold En.alk; rw [if_neg (by omega)]
  rw [hL]
  generalize En.eat l (i - 1) = p at *
  generalize En.eat l i = q at *
  have hle := En.lcp_le (l.drop p) (l.drop q)
  have hget := En.lcp_get (l.drop p) (l.drop q)
  have hcl := En.cl_of_lcp (l.drop p) (l.drop q)
  unfold En.elt at he
  generalize En.lcp (l.drop p) (l.drop q) = L at *
  simp only [List.length_drop] at hle hcl
  have g : ∀ c j, (l.drop c).getD j 0 = l.getD (c + j) 0 := fun c j => by simp
  simp only [g] at hget hcl
  refine ⟨hw, ha, by omega, by omega, fun k hk => (hget k hk).symm, fun h => ?_⟩
  rw [hcl, if_pos (by omega)] at he
  by_cases h2 : L < l.length - q
  · rw [if_pos h2] at he
    by_cases h3 : l.getD (p + L) 0 < l.getD (q + L) 0
    · exact ⟨by omega, h3⟩
    · rw [if_neg h3] at he; omega
  · rw [if_neg h2] at he; omega

set_option maxHeartbeats 400000 in
theorem sortEnds_long (A : Option Addr) (n c : Nat) (w : World) (hn : 200 < n) :
    Calls Try.prog 7 #[.slice A n c] w fun e w' => e = .returned (.bool true) ∧ Below w.heap.size w w' := by
  have hz : (200 : Int) < (n : Int) := by omega
  have HS := Lib.hid sortsK_any
  go_enter Try.func7, Try.ntmps7
  go_wp2_with fail
  with_reducible refine (HS.out _).mono ?_
  rintro e w1 ⟨rfl, hb⟩
  go_wp2
  go_ret
  exact ⟨rfl, hb⟩

set_option maxHeartbeats 4000000 in
set_option maxRecDepth 100000 in
theorem sortEnds_short (A : Option Addr) (c : Nat) (l : List Int) (w : World) (hr : IRow w w.heap.size A l) (hn : l.length ≤ 200) :
    Calls Try.prog 7 #[.slice A l.length c] w fun e w' => e = .returned (.bool true) ∧ Below w.heap.size w w' := by
  have HE := Lib.hid (ends_ints A c l w hr (by omega))
  have HA := Lib.hid (show ∀ (W : World) (A2 : Option Addr) (c2 : Nat), IRow W W.heap.size A2 (endsI l) → Below w.heap.size w W → Calls Try.prog 27 #[.slice A l.length c, .slice A2 l.length c2] W (Ints W (En.alikeOf l)) from
    fun W A2 c2 h1 h2 => alike_yes A A2 c c2 l W (hr.on h2) h1 (by omega))
  have HS := Lib.hid sortsK_any
  have Hrow := Lib.hid hr
  obtain ⟨f, hf⟩ : ∃ f : Nat → Int, f = fun k => l.getD k 0 := ⟨_, rfl⟩
  have Hp := Lib.hid (pair_of l)
  rw [← hf] at Hp
  have Hinj : Hid (∀ i j, i < l.length → j < l.length → En.eat l i = En.eat l j → i = j) := Lib.hid (En.eat_inj l)
  have Hlt : Hid (∀ i, i < l.length → En.eat l i < l.length) := Lib.hid (En.eat_lt l)
  have Hr1 : Hid (∀ (W : World) (A1 : Option Addr), IRow W W.heap.size A1 (endsI l) → Row W W.heap.size A1 l.length (fun i => .int .i64 ((En.eat l i : Nat) : Int))) := Lib.hid fun W A1 h => by
    unfold IRow at h
    rw [endsI_length] at h
    exact h.congr (fun i _ => by rw [endsI_get])
  have el : (En.alikeOf l).length = l.length := by simp [En.alikeOf]
  have Hel := Lib.hid el
  have Hr2 : Hid (∀ (W : World) (A1 : Option Addr), IRow W W.heap.size A1 (En.alikeOf l) → Row W W.heap.size A1 l.length (fun i => .int .i64 ((En.alk l i : Nat) : Int))) := Lib.hid fun W A1 h => by
    unfold IRow at h
    rw [el] at h
    exact h.congr (fun i hi => by simp [En.alikeOf, hi])
  have Hr0 : Hid (∀ W : World, Below w.heap.size w W → Row W W.heap.size A l.length (fun i => .int .i64 (f i))) := Lib.hid fun W h => by rw [hf]; exact hr.on h
  have hmk := run_make_row' (P := Try.prog) 22 4 (.bool false) 1 Try.underlying22 infoBool' rfl .i64 .i64 l.length (by omega) (by omega)
  clear hr el Hrow
  have Hei := Lib.hid (endsI_length l)
  generalize hE : En.eat l = E at *
  generalize hH : En.alk l = H at *
  clear hE hH hf
  generalize l.length = n at *
  go_enter Try.func7, Try.ntmps7
  go_wp2_with fail
  with_reducible refine HE.out.mono ?_
  rintro e w1 ⟨A1, c1, rfl, h1, h2⟩
  rw [Hei.out]
  have HA' := Lib.hid (HA.out w1 A1 c1 h1 h2)
  have K1 := Hr1.out w1 A1 h1
  clear HE HA h1 Hr1
  go_wp2_with fail
  with_reducible refine HA'.out.mono ?_
  rintro e w3 ⟨A2, c2, rfl, h3, h4⟩
  rw [Hel.out]
  have K2 := Hr2.out w3 A2 h3
  have K1 := row_below K1 h4
  have hb3 := h2.trans (h4.mono h2.size)
  have K0 := Hr0.out w3 hb3
  clear HA' h3 h4 h2 Hr2 Hr0 Hel Hei
  have hrow := World.rowIs_made w3 (.bool false) n 4
  have hbel : Below w3.heap.size w3 (w3.alloc (.cells (madeCells #[.bool false] n) 4)) := (Below.refl _ _).alloc (Nat.le_refl _) _
  have hnn : ((n : Int) != (n : Int)) = false := by simp
  go_wp2
  go_loopw [37] (fun s W => ∃ (k : Nat) (sn : Nat → Bool), k ≤ n ∧ s = .int .i64 k ∧ Hid (∀ j, k ≤ j → j < n → sn (E j) = false) ∧ W.rowIs w3.heap.size 4 n (fun j => .bool (sn j)) ∧ Below w3.heap.size w3 W) (fun s _ => n - (intOf s).toNat)
  case atStart => exact ⟨0, fun _ => false, Nat.zero_le _, rfl, (fun _ _ _ => rfl : ∀ j, 0 ≤ j → j < n → (fun _ => false) (E j) = false), hrow, hbel⟩
  case round =>
    obtain ⟨k, sn, hk, rfl, I, hrs, hbs⟩ := hrel
    clear hrow hbel hmk
    by_cases hlt : k < n
    · have hE0 := Hlt.out k hlt
      obtain ⟨b1, o1, rfl, hb1, hc1⟩ := K1 (by omega)
      have e1 : wr.cell? ⟨b1, o1 + k, none⟩ = some (.int .i64 ((E k : Nat) : Int)) := (hbs.cell (p := ⟨b1, o1 + k, none⟩) hb1).trans (hc1 k hlt)
      have s1 : wr.cell? ⟨w3.heap.size, E k, none⟩ = some (.bool (sn (E k))) := hrs.cell hE0
      rw [I.out k (Nat.le_refl _) hlt] at s1
      have fz := hrs.frozen (E k)
      have hz1 : (k : Int) < (n : Int) := by omega
      have hz2 : ((E k : Nat) : Int) < (n : Int) := by omega
      have r2 := (hrs.set (E k) (.bool true)).congr (g := fun j => .bool (if j = E k then true else sn j)) (fun i _ => by by_cases h : i = E k <;> simp [h])
      have b2 := hbs.setCell (p := ⟨w3.heap.size, E k, none⟩) (Nat.le_refl _) (.bool true)
      have I2 : Hid (∀ j, k + 1 ≤ j → j < n → (fun j => if j = E k then true else sn j) (E j) = false) := Lib.hid fun j hj hjn => by
        show (if E j = E k then true else sn (E j)) = false
        rw [if_neg (fun e => by have := Hinj.out j k hjn hlt e; omega)]
        exact I.out j (by omega) hjn
      clear I
      by_cases hk0 : k = 0
      · have hkz : ((k : Int) == 0) = true := by simp [hk0]
        clear hc1 hk0 hk
        generalize E k = p at *
        go_wp2
        go_roundw
        case rel => exact ⟨k + 1, _, by omega, by go_num, I2, r2, b2⟩
        case measure => simp [intOf]; omega
      · obtain ⟨t, rfl⟩ : ∃ t, k = t + 1 := ⟨k - 1, by omega⟩
        have P := Hp.out (t + 1) (by omega) hlt
        rw [Nat.add_sub_cancel] at P
        obtain ⟨bl, ol, rfl, hbl, hcl⟩ := K2 (by omega)
        obtain ⟨b0, o0, rfl, hb0, hc0⟩ := K0 (by omega)
        obtain ⟨W, hW⟩ : ∃ W, W = wr.setCell ⟨w3.heap.size, E (t + 1), none⟩ (.bool true) := ⟨_, rfl⟩
        rw [← hW] at r2 b2
        have a1 : W.cell? ⟨bl, ol + (t + 1), none⟩ = some (.int .i64 ((H (t + 1) : Nat) : Int)) := (b2.cell (p := ⟨bl, ol + (t + 1), none⟩) hbl).trans (hcl (t + 1) hlt)
        have a2 : W.cell? ⟨b1, o1 + t, none⟩ = some (.int .i64 ((E t : Nat) : Int)) := (b2.cell (p := ⟨b1, o1 + t, none⟩) hb1).trans (hc1 t (by omega))
        have HL : Hid (∀ i, i < n → W.cell? ⟨b0, o0 + i, none⟩ = some (.int .i64 (f i))) := Lib.hid fun i hi => (b2.cell (p := ⟨b0, o0 + i, none⟩) hb0).trans (hc0 i hi)
        clear hc1 hcl hc0 Hp Hlt Hinj
        generalize E (t + 1) = p at *
        generalize E t = was at *
        generalize H (t + 1) = L at *
        obtain ⟨q1, q2, q3, q4, q5, q6⟩ := P
        have HS5 := Lib.hid q5
        have HS6 := Lib.hid q6
        clear q5 q6
        have y1 : (t : Int) < (n : Int) := by omega
        have y2 : (t : Int) + 1 < (n : Int) := by omega
        have y3 : (p : Int) + (L : Int) ≤ (n : Int) := by omega
        have y4 : (was : Int) + (L : Int) ≤ (n : Int) := by omega
        go_wp2
        rw [← hW]
        clear hW hrs hbs s1 fz e1
        go_quiet (fail)
        go_wp2
        go_loopw [89] (fun s V => ∃ k2 q : Nat, k2 ≤ L ∧ s = .int .i64 k2 ∧ V = W.drewN q) (fun s _ => L - (intOf s).toNat)
        case atStart => exact ⟨0, _, Nat.zero_le _, rfl, rfl⟩
        case round =>
          obtain ⟨k2, q, hk2, rfl, rfl⟩ := hrel
          by_cases hlt2 : k2 < L
          · have f1 := HL.out (p + k2) (by omega)
            have f2 := HL.out (was + k2) (by omega)
            have f3 : (f (p + k2) != f (was + k2)) = false := by simp [HS5.out k2 hlt2]
            have z1 : (p : Int) + (k2 : Int) < (n : Int) := by omega
            have z2 : (was : Int) + (k2 : Int) < (n : Int) := by omega
            have z3 : (k2 : Int) < (L : Int) := by omega
            go_wp2
            go_quiet (fail)
            go_wp2
            go_roundw
            case rel => exact ⟨k2 + 1, _, by omega, by go_num, rfl⟩
            case measure => simp [intOf]; omega
          · have hk2L : k2 = L := by omega
            have v1 : IntKind.i64.wrap ((p : Int) + (L : Int)) = (p : Int) + (L : Int) := by simp [IntKind.wrap, IntKind.bits, IntKind.signed]; omega
            have v2 : IntKind.i64.wrap ((was : Int) + (L : Int)) = (was : Int) + (L : Int) := by simp [IntKind.wrap, IntKind.bits, IntKind.signed]; omega
            have r3 : (W.drewN q).rowIs w3.heap.size 4 n (fun j => .bool (if j = p then true else sn j)) := r2
            by_cases hin : was + L < n
            · obtain ⟨i1, i2⟩ := HS6.out hin
              have f1 := HL.out (p + L) i1
              have f2 := HL.out (was + L) hin
              have z1 : (p : Int) + (L : Int) < (n : Int) := by omega
              have z2 : (was : Int) + (L : Int) < (n : Int) := by omega
              have z3 : decide ((was : Int) + (L : Int) < (n : Int)) = true := by simp [z2]
              have z4 : decide ((n : Int) ≤ (p : Int) + (L : Int)) = false := by simp; omega
              have z5 : decide (f (p + L) ≤ f (was + L)) = false := by simp; omega
              go_wp2
              go_quiet (fail)
              go_wp2
              go_roundw
              case rel => exact ⟨t + 2, _, by omega, by go_num, I2, r2, Below.drewN b2 _⟩
              case measure => simp [intOf]; omega
            · have z2 : (n : Int) ≤ (was : Int) + (L : Int) := by omega
              have z3 : decide ((was : Int) + (L : Int) < (n : Int)) = false := by simp; omega
              go_wp2
              go_quiet (fail)
              go_wp2
              go_roundw
              case rel => exact ⟨t + 2, _, by omega, by go_num, I2, r2, Below.drewN b2 _⟩
              case measure => simp [intOf]; omega
    · have hkn : k = n := by omega
      go_wp2_with fail
      with_reducible refine (HS.out _).mono ?_
      rintro e w5 ⟨rfl, h5⟩
      go_wp2
      go_ret
      exact ⟨rfl, hb3.trans ((hbs.mono hb3.size).trans (h5.mono (Nat.le_trans hb3.size hbs.size)))⟩

theorem sortEnds_any (A : Option Addr) (c : Nat) (l : List Int) (w : World) (hr : IRow w w.heap.size A l) :
    Calls Try.prog 7 #[.slice A l.length c] w fun e w' => e = .returned (.bool true) ∧ Below w.heap.size w w' := by
  by_cases h : l.length ≤ 200
  · exact sortEnds_short A c l w hr h
  · exact sortEnds_long A l.length c w (by omega)

end Go.Proofs.Ytnmhjhfdgfdooaa
