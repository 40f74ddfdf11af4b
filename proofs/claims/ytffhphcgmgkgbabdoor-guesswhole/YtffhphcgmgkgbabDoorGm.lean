/- The walk of the law GuessWhole. -/
import Derived.Test.YtffhphcgmgkgbabDoorGl
namespace Go.Proofs.YtffhphcgmgkgbabDoor
open Go.RowKit
attribute [local irreducible] Bt.pop Bt.popF

namespace Pt
/-- the first i signs together; the next one -/
def tog (l t : List Int) (i : Nat) : Nat × Nat := red (sumTo i (fun x => (lv l x t).1)) (lv l 0 t).2
def nxt (l t : List Int) (i : Nat) : Nat × Nat := red (lv l (i + 1) t).1 (lv l 0 t).2
theorem sumTo_mono (g : Nat → Nat) (i n : Nat) (h : i ≤ n) : sumTo i g ≤ sumTo n g := by
  induction n with
  | zero => rw [show i = 0 from by omega]; exact Nat.le_refl _
  | succ n ih =>
    by_cases e : i = n + 1
    · subst e; exact Nat.le_refl _
    · rw [sumTo_succ]; have := ih (by omega); omega
theorem tog_zero {l : List Int} (h : En.Sg l) (hm : 0 < En.most l) (t : List Int) : tog l t 0 = (0, 1) := by unfold tog; rw [sumTo_zero]; exact red_zero (lv_pos h 0 hm t).2
theorem tog_succ {l : List Int} (h : En.Sg l) (hm : 0 < En.most l) (t : List Int) (i : Nat) : sumP (tog l t i) (nxt l t i) = tog l t (i + 1) := by
  unfold tog nxt
  rw [sumP_same _ _ _ (lv_pos h 0 hm t).2, sumTo_succ]
theorem tog_end {l : List Int} (h : En.Sg l) (hm : 0 < En.most l) (t : List Int) : tog l t (En.most l) = (1, 1) := by unfold tog; rw [lv_sum h t]; exact red_self (lv_pos h 0 hm t).2
theorem tog_ok {l : List Int} (h : En.Sg l) (hm : 0 < En.most l) (t : List Int) (i : Nat) (hi : i ≤ En.most l) : 1 ≤ (tog l t i).2 ∧ (tog l t i).1 ≤ (tog l t i).2 := by
  have hp := (lv_pos h 0 hm t).2
  refine ⟨red_pos _ _ hp, red_lt ?_⟩
  rw [← lv_sum h t]
  exact sumTo_mono _ _ _ hi
theorem nxt_ok {l : List Int} (h : En.Sg l) (hm : 0 < En.most l) (t : List Int) (i : Nat) (hi : i < En.most l) : 1 ≤ (nxt l t i).1 ∧ 1 ≤ (nxt l t i).2 ∧ (nxt l t i).1 ≤ (nxt l t i).2 := by
  have hp := (lv_pos h 0 hm t).2
  have h1 := (lv_pos h (i + 1) hm t).1
  have h2 := lv_le h t (i + 1) (by omega) (by omega)
  rw [lv_den l (i + 1) 0 t] at h2
  exact ⟨red_one hp h1, red_pos _ _ hp, red_lt h2⟩
theorem lik_nxt (l b : List Int) (i : Nat) (hi : i < En.most l) : lik l b ((i + 1 : Nat) : Int) = nxt l (last2 b) i := by
  rw [lik_yes l b (i + 1) (by omega) (by omega), lv_den l (i + 1) 0]
  rfl
theorem add_ok (a b : Nat × Nat) (h1 : a.1 ≤ a.2) (h2 : b.1 ≤ b.2) (h3 : a.2 ≤ 1073741824) (h4 : b.2 ≤ 1073741824) : a.1 * b.2 + b.1 * a.2 < 9223372036854775808 ∧ a.2 * b.2 < 9223372036854775808 := by
  have k1 : a.1 * b.2 ≤ 1073741824 * 1073741824 := Nat.mul_le_mul (by omega) h4
  have k2 : b.1 * a.2 ≤ 1073741824 * 1073741824 := Nat.mul_le_mul (by omega) h3
  have k3 : a.2 * b.2 ≤ 1073741824 * 1073741824 := Nat.mul_le_mul h3 h4
  omega
end Pt

/-- the parts, told otherwise -/
theorem ptF_congr {W : World} {g n : Nat} {q q' : Nat → Nat × Nat} {k : Nat} (h : W.rowIs g 32 (n * 2) (ptF q k)) (e : ∀ i, i < n → q i = q' i) : W.rowIs g 32 (n * 2) (ptF q' k) :=
  h.congr (fun i hi => by unfold ptF; rw [e (i / 2) (by omega)])

set_option maxRecDepth 100000 in
set_option maxHeartbeats 4000000 in
theorem guessWhole_any (A A2 : Option Addr) (c c2 : Nat) (l s : List Int) (w : World) (hr : IRow w w.heap.size A l) (hr2 : IRow w w.heap.size A2 s) (hcap : l.length ≤ c) (hcap2 : s.length ≤ c2) (hn : l.length ≤ 17592186043904) (hs : s.length ≤ 17592186043904) :
    Calls Tryd.prog 3 #[.slice A l.length c, .slice A2 s.length c2] w fun e w' => e = .returned (.bool true) ∧ Below w.heap.size w w' := by
  have HM := Lib.hid (combMake_all A c l.length l w hr rfl hcap (by omega))
  have HW := Lib.hid (fun W => guessesK_any W)
  have HA : Hid (∀ i, i < l.length → ∃ b o, A = some ⟨b, o, none⟩ ∧ w.cell? ⟨b, o + i, none⟩ = some (.int .i64 (l.getD i 0))) := Lib.hid fun i hi => by
    obtain ⟨b, o, e, _, hc⟩ := hr (by omega)
    exact ⟨b, o, e, hc i hi⟩
  have HR2 : Hid (∀ W, Below w.heap.size w W → IRow W W.heap.size A2 s) := Lib.hid fun W hW => hr2.on hW
  have HS := Lib.hid (mostK_succ l)
  have HE := Lib.hid (mostK_end l)
  have HAll : Hid (∀ (B : Nat) (E L S : Option Addr) (cE cL cS N M : Nat) W, CB w B E L S cE cL cS N M l W → N ≤ 101 → IRow W W.heap.size A2 s → Calls Tryd.prog 7 #[.agg #[.slice E N cE, .int .i64 N, .int .i64 10, .slice L 10 cL, .slice S M cS], .slice A2 s.length c2] W (AllIs W l s)) := Lib.hid fun B E L S cE cL cS N M W hW hN hI =>
    all_any E L S A2 cE cL cS N M c2 s.length l s W hW.cmb hW.len hW.num hW.capE hW.capL hI rfl hcap2 (by omega) (by have := hW.len; omega)
  clear hr hr2 hcap hcap2
  generalize hN : l.length = N at *
  have HN := Lib.hid hN
  clear hN
  generalize s.length = n2 at *
  go_enter Tryd.func3, Tryd.ntmps3
  go_wp2
  go_loop [5, 15] (fun s5 t => ∃ k : Nat, k ≤ N ∧ t = .int .i64 k ∧ s5 = .int .i64 (mostK l k : Nat)) (fun _ t => N - (intOf t).toNat)
  case atStart => exact ⟨0, Nat.zero_le _, rfl, rfl⟩
  case round =>
    obtain ⟨k, hk, rfl, rfl⟩ := hrel
    by_cases hlt : k < N
    · have hlz : (k : Int) < (N : Int) := by omega
      obtain ⟨b, o, rfl, d1⟩ := HA.out k hlt
      have e1 := HS.out k hlt
      have HE1 := Lib.hid e1
      clear e1 HM HW HA HR2 HS HE HAll HN
      generalize l.getD k 0 = x at *
      generalize hmm : mostK l (k + 1) = m1 at *
      have HM1 := Lib.hid hmm
      clear hmm
      generalize mostK l k = m0 at *
      go_wp2
      all_goals
        go_round
        case rel => exact ⟨k + 1, by omega, by go_num, by rw [HM1.out, HE1.out]⟩
        case measure => simp [intOf]; omega
    · obtain rfl : k = N := by omega
      rw [HE.out]
      clear HA HS HE hlt hk
      go_wp2_with fail
      with_reducible refine HM.out.mono ?_
      rintro e w1 (⟨rfl, hb1⟩ | ⟨E, L, S, cE, cL, cS, rfl, hE, hL, hC, hb1⟩)
      · have hb2 := hb1.alloc hb1.size (.cells #[.slice none 0 0, .int .i64 0, .int .i64 0, .slice none 0 0, .slice none 0 0] 27)
        clear HM HAll HR2 hb1
        go_wp2_with fail
        with_reducible refine (HW.out _).mono ?_
        rintro e w2 ⟨rfl, hb3⟩
        have hb4 := hb2.trans (hb3.mono hb2.size)
        clear HW hb2 hb3
        go_wp2
        go_ret
        exact ⟨rfl, hb4⟩
      · have J0 : CB w w1.heap.size E L S cE cL cS k (En.most l + 2) l (w1.alloc (.cells #[.slice E k cE, .int .i64 k, .int .i64 10, .slice L 10 cL, .slice S (En.most l + 2) cS] 27)) := CB.start hC HN.out.symm rfl hE hL hb1 27
        have hsg := hC.sg
        clear HM hC hb1 hE hL
        generalize hmm : En.most l = m at *
        have Hm := Lib.hid hmm
        clear hmm
        by_cases hcond : 101 < k ∨ m < 1 ∨ 100 < m
        · have hold := J0.old
          clear HAll HR2 J0 hsg
          by_cases h1 : 101 < k
          · have z1 : (101 : Int) < (k : Int) := by omega
            go_wp2_with fail
            with_reducible refine (HW.out _).mono ?_
            rintro e w2 ⟨rfl, hb3⟩
            have hb4 := hold.trans (hb3.mono hold.size)
            clear HW hold hb3
            go_wp2
            go_ret
            exact ⟨rfl, hb4⟩
          · have z1 : ¬ ((101 : Int) < (k : Int)) := by omega
            by_cases h2 : m < 1
            · have z2 : (m : Int) < 1 := by omega
              go_wp2_with fail
              with_reducible refine (HW.out _).mono ?_
              rintro e w2 ⟨rfl, hb3⟩
              have hb4 := hold.trans (hb3.mono hold.size)
              clear HW hold hb3
              go_wp2
              go_ret
              exact ⟨rfl, hb4⟩
            · have z2 : ¬ ((m : Int) < 1) := by omega
              have z3 : (100 : Int) < (m : Int) := by omega
              go_wp2_with fail
              with_reducible refine (HW.out _).mono ?_
              rintro e w2 ⟨rfl, hb3⟩
              have hb4 := hold.trans (hb3.mono hold.size)
              clear HW hold hb3
              go_wp2
              go_ret
              exact ⟨rfl, hb4⟩
        · have z1 : ¬ ((101 : Int) < (k : Int)) := by omega
          have z2 : ¬ ((m : Int) < 1) := by omega
          have z3 : ¬ ((100 : Int) < (m : Int)) := by omega
          go_wp2_with fail
          with_reducible refine (HW.out _).mono ?_
          rintro e w2 ⟨rfl, hb3⟩
          have J1 := J0.on hb3
          clear HW J0 hb3 z1 z2 z3
          have X0 := Bx2.new J1.old (.int .i64 0) (.int .i64 1) 32
          have hb4 := (Below.refl _ w2).alloc (Nat.le_refl _) (.cells #[.int .i64 0, .int .i64 1] 32)
          have J2 := J1.on hb4
          have HAl := Lib.hid (HAll.out _ _ _ _ _ _ _ _ _ _ J2 (by omega) (HR2.out _ J2.old))
          have c0 := J2.c0
          have c1 := J2.c1
          have c2' := J2.c2
          have c3 := J2.c3
          have c4 := J2.c4
          clear J1 HAll HR2
          go_wp2_with fail
          with_reducible refine HAl.out.mono ?_
          rintro e w3 ⟨g, rfl, hP, hge, hb5⟩
          rw [Hm.out] at hP ⊢
          have X1 := X0.on hb5
          have hXg : w2.heap.size < g := by simp at hge; omega
          clear HAl c0 c1 c2' c3 c4 J2 X0 hb5 hge hb4
          have hm0 : 0 < En.most l := by rw [Hm.out]; omega
          have F0 := Lib.hid (Pt.tog_zero hsg hm0 (Pt.last2 s))
          have Fs := Lib.hid (Pt.tog_succ hsg hm0 (Pt.last2 s))
          have Fe := Lib.hid (Pt.tog_end hsg hm0 (Pt.last2 s))
          have Ft := Lib.hid (Pt.tog_ok hsg hm0 (Pt.last2 s))
          have Fn := Lib.hid (Pt.nxt_ok hsg hm0 (Pt.last2 s))
          rw [Hm.out] at Fe Ft Fn
          have hP2 : w3.rowIs g 32 (m * 2) (ptF (Pt.nxt l (Pt.last2 s)) m) := ptF_congr hP (fun i hi => Pt.lik_nxt l s i (by rw [Hm.out]; exact hi))
          clear hP hm0 hsg
          generalize Pt.nxt l (Pt.last2 s) = q at *
          generalize Pt.tog l (Pt.last2 s) = tg at *
          go_wp2
          go_loopw [53] (fun t W => ∃ i : Nat, i ≤ m ∧ t = .int .i64 i ∧ W.rowIs g 32 (m * 2) (ptF q m) ∧ Bx2 w w2.heap.size (.int .i64 ((tg i).1 : Nat)) (.int .i64 ((tg i).2 : Nat)) W) (fun t _ => m - (intOf t).toNat)
          case atStart => exact ⟨0, Nat.zero_le _, rfl, hP2, by rw [F0.out]; exact X1⟩
          case round =>
            obtain ⟨i, hi, rfl, hP, X⟩ := hrel
            clear hP2 X1 F0
            generalize wr = V at *
            by_cases hlt : i < m
            · have hlz : (i : Int) < (m : Int) := by omega
              obtain ⟨d0, d1⟩ := parts_at hP hlt hlt
              obtain ⟨b1, b2, b3⟩ := Fn.out i hlt
              obtain ⟨b4, b5⟩ := Ft.out i hi
              have hFs := Lib.hid (Fs.out i)
              have hgV := hP.lt
              clear Fn Ft Fs Fe
              generalize hq : q i = qi at *
              have HQi := Lib.hid hq
              clear hq
              generalize ht : tg i = ti at *
              generalize ht1 : tg (i + 1) = ti1 at *
              have HT1 := Lib.hid ht1
              clear ht ht1
              have x0 := X.c0
              have x1 := X.c1
              have u1 : ¬ (((qi.1 : Nat) : Int) < 1) := by omega
              have u2 : ¬ (((qi.2 : Nat) : Int) < 1) := by omega
              have u3 : ¬ (((qi.2 : Nat) : Int) < ((qi.1 : Nat) : Int)) := by omega
              have hbV := (Below.refl _ V).alloc (Nat.le_refl _) (.cells #[.int .i64 (qi.1 : Nat), .int .i64 (qi.2 : Nat)] 32)
              have Q1 := Bx2.new X.old (.int .i64 (qi.1 : Nat)) (.int .i64 (qi.2 : Nat)) 32
              have X1 := X.on hbV
              have hP1 := hP.alloc (.cells #[.int .i64 (qi.1 : Nat), .int .i64 (qi.2 : Nat)] 32)
              have hold := Q1.old
              have xlt := X.lt
              by_cases hbig : 1073741824 < ti.2
              · have z1 : (1073741824 : Int) < ((ti.2 : Nat) : Int) := by omega
                clear hP X Q1 X1 hP1 hFs HQi HT1
                go_wp2
                go_ret
                exact ⟨rfl, hold⟩
              · have z1 : ¬ ((1073741824 : Int) < ((ti.2 : Nat) : Int)) := by omega
                by_cases hbig2 : 1073741824 < qi.2
                · have z2 : (1073741824 : Int) < ((qi.2 : Nat) : Int) := by omega
                  clear hP X Q1 X1 hP1 hFs HQi HT1
                  go_wp2
                  go_ret
                  exact ⟨rfl, hold⟩
                · have z2 : ¬ ((1073741824 : Int) < ((qi.2 : Nat) : Int)) := by omega
                  have HAd : Hid (∀ W, Calls Tryd.prog 8 #[.agg #[.int .i64 (ti.1 : Nat), .int .i64 (ti.2 : Nat)], .agg #[.int .i64 (qi.1 : Nat), .int .i64 (qi.2 : Nat)]] W fun e w' => e = .returned (.agg #[.int .i64 (ti1.1 : Nat), .int .i64 (ti1.2 : Nat)]) ∧ Below W.heap.size W w') := Lib.hid fun W => by
                    obtain ⟨k1, k2⟩ := Pt.add_ok ti qi b5 b3 (by omega) (by omega)
                    have := add_any ti.1 ti.2 qi.1 qi.2 W b4 b2 k1 k2
                    rw [show ((ti.1, ti.2) : Nat × Nat) = ti from rfl, show ((qi.1, qi.2) : Nat × Nat) = qi from rfl, hFs.out] at this
                    exact this
                  clear hP X hFs HQi hbV
                  go_wp2_with fail
                  with_reducible refine (HAd.out _).mono ?_
                  rintro e w5 ⟨rfl, hb5⟩
                  have X2 := X1.on hb5
                  have hP2 := hP1.of_block (hb5.block _ hP1.lt)
                  clear HAd X1 hP1 hb5 Q1 x0 x1
                  have x0 := X2.c0
                  have x1 := X2.c1
                  have f0 := X2.f0
                  have f1 := X2.f1
                  have X3 := X2.set (.int .i64 (ti1.1 : Nat)) (.int .i64 (ti1.2 : Nat))
                  have hP3 := (hP2.setOther (a := ⟨w2.heap.size, 0, none⟩) (by show g ≠ w2.heap.size; omega) (.int .i64 (ti1.1 : Nat))).setOther (a := ⟨w2.heap.size, 1, none⟩) (by show g ≠ w2.heap.size; omega) (.int .i64 (ti1.2 : Nat))
                  clear X2 hP2
                  go_wp2
                  clear x0 x1 f0 f1
                  go_roundw
                  case rel => exact ⟨i + 1, by omega, by go_num, hP3, by rw [HT1.out]; exact X3⟩
                  case measure => simp [intOf]; omega
            · obtain rfl : i = m := by omega
              have x0 := X.c0
              have x1 := X.c1
              rw [Fe.out] at x0 x1
              have hold := X.old
              clear Fn Ft Fs Fe X hP
              go_wp2
              go_ret
              exact ⟨by first | rfl | simp, hold⟩

end Go.Proofs.YtffhphcgmgkgbabDoor
