/- The reference's KindsIn. -/
import Derived.Test.YtgnakccbkglfpaaWy
namespace Go.Proofs.Ytgnakccbkglfpaa
open Go.RowKit

theorem kinds_nil (i j m : Nat) : Wv.kinds [] i j m = [] := by
  unfold Wv.kinds
  rw [List.filter_eq_nil_iff]
  intro v _ hv
  simp at hv
theorem kinds_cap (l : List Nat) (i j d : Nat) (hf : ∀ n ∈ l, n < 2 ^ d) (hd : d ≤ 11) : Wv.kinds l i j 2050 = Wv.kinds l i j (2 ^ d) := by
  have h : 2 ^ d ≤ 2 ^ 11 := Nat.pow_le_pow_right (by omega) hd
  have h2 : (2 : Nat) ^ 11 = 2048 := by decide
  have := Wv.kinds_more l i j (2 ^ d) hf (2050 - 2 ^ d)
  rwa [show 2 ^ d + (2050 - 2 ^ d) = 2050 from by omega] at this

set_option maxHeartbeats 4000000 in
theorem kindsIn_any (A : Option Addr) (c : Nat) (l : List Nat) (d : Nat) (fr tu : Int) (w : World) (hr : NRow w w.heap.size A l) (hl : l.length ≤ 200) (hf : ∀ n ∈ l, n < 2 ^ d) (hd : d ≤ 11) :
    Calls Try.prog 45 #[.slice A l.length c, .int .i64 fr, .int .i64 tu] w fun e w' => ∃ X cx, e = .returned (.slice X (kindsN l d fr tu).length cx) ∧ NRow w' w'.heap.size X (kindsN l d fr tu) ∧ Below w.heap.size w w' := by
  have HFin : Hid (∀ v W t, OL w (up (Wv.kinds l (Wv.cl l.length fr) (Wv.cl l.length tu) t)) v W → (l.length = 0 ∨ t = 2050) → ∃ X cx, v = .slice X (kindsN l d fr tu).length cx ∧ NRow W W.heap.size X (kindsN l d fr tu) ∧ Below w.heap.size w W) := Lib.hid fun v W t h ht => by
    have e : Wv.kinds l (Wv.cl l.length fr) (Wv.cl l.length tu) t = kindsN l d fr tu := by
      unfold kindsN
      rcases ht with h0 | h0
      · have : l = [] := List.eq_nil_of_length_eq_zero h0
        subst this
        rw [kinds_nil, kinds_nil]
      · rw [h0]; exact kinds_cap l _ _ d hf hd
    rw [e] at h
    obtain ⟨X, cx, rfl, _⟩ := own_slice h.own
    obtain ⟨_, hrow⟩ := own_row (0 : Int) h.own
    refine ⟨X, cx, by rw [up_len], NRow.of_ints hrow, h.old⟩
  have HR : Hid (∀ W, Below w.heap.size w W → ∀ k, k < l.length → ∃ b o, A = some ⟨b, o, none⟩ ∧ W.cell? ⟨b, o + k, none⟩ = some (.int .i64 ((l.getD k 0 : Nat) : Int))) := Lib.hid fun W h k hk => by
    obtain ⟨b, o, e, hb, hc⟩ := hr (by omega)
    exact ⟨b, o, e, (h.cell (p := ⟨b, o + k, none⟩) hb).trans (hc k hk)⟩
  have P0 := Lib.hid (fun t => Wv.fnd_zero l fr tu t)
  have P1 := Lib.hid (fun t m => Wv.fnd_succ l fr tu t m)
  have P2 := Lib.hid (fun t (y : Bool) (hy : Wv.fnd l fr tu t l.length = y) => show Wv.kinds l (Wv.cl l.length fr) (Wv.cl l.length tu) (t + 1) = Wv.kinds l (Wv.cl l.length fr) (Wv.cl l.length tu) t ++ (if y = true then [t] else []) by
    rw [Wv.kinds_succ, ← hy, Wv.fnd_all]
    congr 1
    simp only [decide_eq_true_eq])
  have P3 := Lib.hid (fun t => Wv.kinds_len l (Wv.cl l.length fr) (Wv.cl l.length tu) t)
  have P4 : Hid (Wv.kinds l (Wv.cl l.length fr) (Wv.cl l.length tu) 0 = []) := Lib.hid rfl
  generalize kindsN l d fr tu = KF at *
  generalize Wv.kinds l (Wv.cl l.length fr) (Wv.cl l.length tu) = KK at *
  generalize Wv.fnd l fr tu = Fd at *
  clear hr hf
  generalize l.length = N at *
  go_enter Try.func45, Try.ntmps45
  go_wp2
  go_loopw [7, 8] (fun s7 s8 W => ∃ t : Nat, t ≤ 2049 ∧ s8 = .int .i64 t ∧ OL w (up (KK t)) s7 W) (fun _ s _ => 65536 - (intOf s).toNat)
  case atStart => exact ⟨0, by omega, rfl, by rw [P4.out]; exact OL.nil w w (Below.refl _ _)⟩
  case round =>
    obtain ⟨t, ht, rfl, I⟩ := hrel
    have hlz : (t : Int) < 65536 := by omega
    have Q1 := Lib.hid (P1.out t)
    have Q2 := Lib.hid (P2.out t)
    have Q0 := Lib.hid (P0.out t)
    have q3 := P3.out t
    generalize hGt : Fd t = Gt at *
    generalize hKt : KK t = Kt at *
    have HK1 := Lib.hid (fun (v : Value) (W : World) => HFin.out v W (t + 1))
    have hGn : ∀ x : Nat, x = x := fun _ => rfl
    clear P0 P1 P2 P3 P4 HFin hGt hKt hGn
    generalize hKt1 : KK (t + 1) = Kt1 at *
    have HKt1 := Lib.hid hKt1
    clear hKt1
    generalize wr = V at *
    go_wp2
    go_loopw [9, 18] (fun s9 s W => ∃ m : Nat, m ≤ N ∧ s = .int .i64 m ∧ s9 = .bool (Gt m) ∧ V = W) (fun _ s _ => N - (intOf s).toNat)
    case atStart => exact ⟨0, Nat.zero_le _, rfl, by rw [Q0.out], rfl⟩
    case round =>
      obtain ⟨m, hm, rfl, rfl, rfl⟩ := hrel
      by_cases hlt : m < N
      · obtain ⟨b, o, rfl, hc1⟩ := HR.out V I.old m hlt
        have hlz2 : (m : Int) < (N : Int) := by omega
        have E1 := Lib.hid (Q1.out m)
        clear HR Q1 Q2 Q0 HK1 HKt1 I
        generalize l.getD m 0 = x at *
        generalize hy1 : Gt (m + 1) = y1 at *
        have HY := Lib.hid hy1
        clear hy1
        cases hg : Gt m
        · rw [hg, Bool.false_or] at E1
          by_cases hx : x = t
          · have e1 : (x == t) = true := by simp [hx]
            rw [e1, Bool.true_and] at E1
            have t1 : ((x : Int) == (t : Int)) = true := by simp [hx]
            clear hx e1
            by_cases h1 : fr ≤ (m : Int)
            · rw [decide_eq_true h1, Bool.true_and] at E1
              by_cases h2 : (m : Int) < tu
              · rw [decide_eq_true h2] at E1
                go_wp2
                go_roundw
                case rel => exact ⟨m + 1, by omega, by go_num, by rw [HY.out, E1.out], by first | rfl | trivial⟩
                case measure => simp [intOf]; omega
              · rw [decide_eq_false h2] at E1
                go_wp2
                go_roundw
                case rel => exact ⟨m + 1, by omega, by go_num, by rw [HY.out, E1.out], by first | rfl | trivial⟩
                case measure => simp [intOf]; omega
            · rw [decide_eq_false h1, Bool.false_and] at E1
              go_wp2
              go_roundw
              case rel => exact ⟨m + 1, by omega, by go_num, by rw [HY.out, E1.out], by first | rfl | trivial⟩
              case measure => simp [intOf]; omega
          · have e1 : (x == t) = false := by simp [hx]
            rw [e1, Bool.false_and] at E1
            have t1 : ((x : Int) == (t : Int)) = false := by simp; omega
            clear hx e1
            go_wp2
            go_roundw
            case rel => exact ⟨m + 1, by omega, by go_num, by rw [HY.out, E1.out], by first | rfl | trivial⟩
            case measure => simp [intOf]; omega
        · rw [hg, Bool.true_or] at E1
          go_wp2
          go_roundw
          case rel => exact ⟨m + 1, by omega, by go_num, by rw [HY.out, E1.out], by first | rfl | trivial⟩
          case measure => simp [intOf]; omega
      · have hmn : m = N := by omega
        subst hmn
        cases hg : Gt m
        · have e2 := Q2.out false hg
          rw [if_neg (by decide), List.append_nil] at e2
          have I2 : OL w (up Kt1) u7 V := by rw [e2]; exact I
          clear e2 Q0 Q1 Q2 HR I hg
          by_cases hN : m = 0
          · have t2 : ((m : Int) == 0) = true := by simp [hN]
            have HE := Lib.hid (HK1.out _ _ I2 (.inl hN))
            obtain ⟨X, cx, rfl, hX, hbX⟩ := HE.out
            clear HE hN
            go_wp2
            go_ret
            exact ⟨X, cx, rfl, hX, hbX⟩
          · have t2 : ((m : Int) == 0) = false := by simp [hN]
            by_cases h8 : t = 2049
            · have HE := Lib.hid (HK1.out _ _ I2 (.inr (by omega)))
              have t3 : (2048 : Int) < (t : Int) := by omega
              obtain ⟨X, cx, rfl, hX, hbX⟩ := HE.out
              clear HE hN h8
              go_wp2
              go_ret
              exact ⟨X, cx, rfl, hX, hbX⟩
            · have t3 : ¬ (2048 : Int) < (t : Int) := by omega
              have HI2 := Lib.hid I2
              rw [← HKt1.out] at HI2
              clear hN h8
              go_wp2
              go_roundw
              case rel => exact ⟨t + 1, by omega, by go_num, HI2.out⟩
              case measure => simp [intOf]; omega
        · have e2 := Q2.out true hg
          rw [if_pos rfl] at e2
          have hm0 : ¬ m = 0 := fun h => by rw [h, Q0.out] at hg; cases hg
          have HI2 : Hid (∀ v' W', W'.ownsRow w.heap.size 3 1 v' ((up Kt).length + 1) ((up Kt).map (Value.int .i64) ++ [.int .i64 t]) → (V.alloc (.cells #[.int .i64 t] 3)).grownBy W' u7.ownBlock → OL w (up Kt1) v' W') := Lib.hid fun v' W' h1 h2 => by
            have := (I.on ((Below.refl _ V).alloc (Nat.le_refl _) (.cells #[.int .i64 t] 3))).app (t : Int) h1 h2
            rw [e2, up_append]; exact this
          clear e2 Q0 Q1 Q2 HR hg
          have J1 := I.on ((Below.refl _ V).alloc (Nat.le_refl _) (.cells #[.int .i64 t] 3))
          have hsz := I.old.size
          have n1 : (up Kt).length ≤ 2050 := by rw [up_len]; omega
          have hmx : (up Kt).length + 1 ≤ maxLen := by unfold maxLen; omega
          have t2 : ((m : Int) == 0) = false := by simp [hm0]
          by_cases h8 : t = 2049
          · have t3 : (2048 : Int) < (t : Int) := by omega
            have h9 : t + 1 = 2050 := by omega
            have H9 := Lib.hid h9
            clear h8 hm0 h9
            go_wp2_with (at_builtin; refine wpList_app1 _ rfl _ _ 25 rfl w.heap.size 3 (.int .i64 0) 8 Try.underlying25 infoInt4 rfl _ (up Kt).length ((up Kt).map (Value.int .i64)) rfl V.heap.size (.int .i64 t) rfl J1.own (new1 _ _ _) (by simp) rfl hmx (by omega) (by simp; omega) ?_; intro v' w2 h2 h3 h4; obtain ⟨X, cx, rfl, hX, hbX⟩ := HK1.out _ _ (HI2.out v' w2 h2 h3) (.inr H9.out))
            go_ret
            exact ⟨X, cx, rfl, hX, hbX⟩
          · have t3 : ¬ (2048 : Int) < (t : Int) := by omega
            clear h8 hm0
            go_wp2_with (at_builtin; refine wpList_app1 _ rfl _ _ 25 rfl w.heap.size 3 (.int .i64 0) 8 Try.underlying25 infoInt4 rfl _ (up Kt).length ((up Kt).map (Value.int .i64)) rfl V.heap.size (.int .i64 t) rfl J1.own (new1 _ _ _) (by simp) rfl hmx (by omega) (by simp; omega) ?_; intro v' w2 h2 h3 h4)
            have J3 := HI2.out v' w2 h2 h3
            rw [← HKt1.out] at J3
            go_roundw
            case rel => exact ⟨t + 1, by omega, by go_num, J3⟩
            case measure => simp [intOf]; omega

end Go.Proofs.Ytgnakccbkglfpaa
