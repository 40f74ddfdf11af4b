/- The reference's LikelyOf; 'guesses' of the second package; the closure that asks for small parts. -/
import Derived.Test.YtffhphcgmgkgbabGreatDoorHb
import Derived.Test.YtffhphcgmgkgbabGreatDoorGk
namespace Go.Proofs.YtffhphcgmgkgbabGreatDoor
open Go.RowKit
attribute [local irreducible] Bt.pop Bt.popF

theorem likelyR_any (l : List Int) (x : Nat) (hg : En.Sg l) (hl : l.length ≤ 150) (hfit : En.most l < 1024) (h1 : 1 ≤ x) (h2 : x ≤ En.most l) : ∀ (s : List Int), s.length ≤ 2 → LkOk l x s
  | [], hs => likelyR_step l x [] hg hl hfit h1 h2 hs (fun y t h => by cases h)
  | z :: r, hs => likelyR_step l x (z :: r) hg hl hfit h1 h2 hs (fun y t h => by
      injection h with _ h
      subst h
      exact likelyR_any l x hg hl hfit h1 h2 r (by simp at hs; omega))

set_option maxRecDepth 100000 in
set_option maxHeartbeats 2000000 in
theorem likelyOf_any (A A2 : Option Addr) (c c2 N n m : Nat) (x : Int) (l s : List Int) (w : World) (hN : N = l.length) (hn : n = s.length) (hm : m = En.most l) (hr : IRow w w.heap.size A l) (hr2 : IRow w w.heap.size A2 s) (hc2 : n ≤ c2) (hg : En.Sg l) (hl : l.length ≤ 150) (hfit : En.most l < 1024) (hs : n ≤ 17592186044416) :
    Calls Tryz.prog 13 #[.slice A N c, .slice A2 n c2, .int .i64 x, .int .i64 m] w fun e w' => e = .returned (.agg #[.int .i64 ((Pt.lik l s x).1 : Nat), .int .i64 ((Pt.lik l s x).2 : Nat)]) ∧ Below w.heap.size w w' := by
  by_cases hx : x ≤ 0 ∨ (En.most l : Int) < x
  · rw [Pt.lik_no hx, ← hm] at *
    clear hm hr hr2 hN hn hg hl hfit
    by_cases h0 : x < 1
    · go_enter Tryz.func13, Tryz.ntmps13
      go_wp2
      refine bodyPost_ret (v := .agg #[.int .i64 0, .int .i64 1]) (by simp [results, Tryz.results13, go_sem]) rfl ⟨rfl, (Below.refl _ w).alloc (Nat.le_refl _) _⟩
    · have h1 : (m : Int) < x := by omega
      clear hx
      go_enter Tryz.func13, Tryz.ntmps13
      go_wp2
      refine bodyPost_ret (v := .agg #[.int .i64 0, .int .i64 1]) (by simp [results, Tryz.results13, go_sem]) rfl ⟨rfl, (Below.refl _ w).alloc (Nat.le_refl _) _⟩
  · obtain ⟨y, rfl⟩ := Int.eq_ofNat_of_zero_le (show 0 ≤ x by omega)
    have h1 : 1 ≤ y := by omega
    have h2 : y ≤ En.most l := by omega
    rw [Pt.lik_yes l s y h1 h2]
    have hlk := likelyR_any l y hg hl hfit h1 h2 (Pt.last2 s) (by rw [Pt.last2_len]; omega)
    have hb0 := (Below.refl _ w).alloc (Nat.le_refl _) (.cells #[.int .i64 0, .int .i64 0] 24)
    have R0 := Bx2.new (Below.refl w.heap.size w) (.int .i64 0) (.int .i64 0) 24
    have z1 : ¬ ((y : Int) < 1) := by omega
    have z2 : ¬ ((m : Int) < (y : Int)) := by omega
    by_cases h3 : n ≤ 2
    · have e : Pt.last2 s = s := by unfold Pt.last2; rw [show s.length - 2 = 0 from by omega, List.drop_zero]
      rw [e] at hlk
      rw [e]
      have HLk := Lib.hid (hlk A A2 c c2 N n _ hN hn (hr.on hb0) (hr2.on hb0) hc2)
      rw [← hm] at HLk
      have z3 : ¬ ((2 : Int) < (n : Int)) := by omega
      have HE : Hid (((n : Int) == 2) = decide (n = 2)) := Lib.hid (by rw [Bool.eq_iff_iff]; simp; omega)
      clear hlk e hm hr hr2 hN hn hg hl hfit hb0 hx
      generalize Pt.red (Pt.lv l y s).1 (Pt.lv l y s).2 = q at *
      generalize decide (n = 2) = lg at *
      have e2 : ((n : Int) == 2) = lg := HE.out
      go_enter Tryz.func13, Tryz.ntmps13
      go_wp2_with fail
      with_reducible refine HLk.out.mono ?_
      rintro e w2 ⟨rfl, hb2⟩
      have R1 := R0.on hb2
      clear HLk hb2 R0
      have r0 := R1.c0
      have r1 := R1.c1
      have f0 := R1.f0
      have f1 := R1.f1
      have R2 := R1.set (.int .i64 (q.1 : Nat)) (.int .i64 (q.2 : Nat))
      clear R1
      go_wp2
      have c0 := R2.c0
      have c1 := R2.c1
      refine bodyPost_ret (v := .agg #[.int .i64 (q.1 : Nat), .int .i64 (q.2 : Nat)]) (by simp [results, Tryz.results13, go_sem, c0, c1]) rfl ⟨rfl, R2.old⟩
    · have hsub := irow_sub hr2 c2 (s.length - 2) (by omega)
      have HLk := Lib.hid (hlk A (subA A2 c2 (s.length - 2)) c (c2 - (n - 2)) N 2 _ hN (by rw [Pt.last2_len]; omega) (hr.on hb0) (hsub.on hb0) (by omega))
      rw [← hm, show s.length - 2 = n - 2 from by omega, show decide ((2 : Nat) = 2) = true from rfl] at HLk
      have hA : subA A2 c2 (n - 2) = Option.map (fun x => x.add (n - 2)) A2 := by unfold subA; rw [if_neg (by omega)]
      rw [hA] at HLk
      have hz3 : (2 : Int) < (n : Int) := by omega
      clear hlk hm hr hr2 hN hn hg hl hfit hb0 hx hsub hA
      generalize Pt.red (Pt.lv l y (Pt.last2 s)).1 (Pt.lv l y (Pt.last2 s)).2 = q at *
      have e1 : ((n : Int) - 2).toNat = n - 2 := by omega
      have e2 : n - (n - 2) = 2 := by omega
      have hcn : ¬ c2 = n - 2 := by omega
      go_enter Tryz.func13, Tryz.ntmps13
      go_wp2_with fail
      with_reducible refine HLk.out.mono ?_
      rintro e w2 ⟨rfl, hb2⟩
      have R1 := R0.on hb2
      clear HLk hb2 R0
      have r0 := R1.c0
      have r1 := R1.c1
      have f0 := R1.f0
      have f1 := R1.f1
      have R2 := R1.set (.int .i64 (q.1 : Nat)) (.int .i64 (q.2 : Nat))
      clear R1
      go_wp2
      have c0 := R2.c0
      have c1 := R2.c1
      refine bodyPost_ret (v := .agg #[.int .i64 (q.1 : Nat), .int .i64 (q.2 : Nat)]) (by simp [results, Tryz.results13, go_sem, c0, c1]) rfl ⟨rfl, R2.old⟩

set_option maxRecDepth 100000 in
set_option maxHeartbeats 2000000 in
theorem guessesL_any (w : World) : Calls Tryz.prog 10 #[] w fun e w' => e = .returned (.bool true) ∧ Below w.heap.size w w' := by
  have HM := Lib.hid (make_five w)
  obtain ⟨p, hp, hp0⟩ := five_lik
  have HA : Hid (∀ W, Calls Tryz.prog 6 #[.agg #[.int .i64 1, .int .i64 6], .agg #[.int .i64 1, .int .i64 3]] W fun e w' => e = .returned (.agg #[.int .i64 1, .int .i64 2]) ∧ Below W.heap.size W w') := Lib.hid fun W => by
    have := add_any 1 6 1 3 W (by omega) (by omega) (by omega) (by omega)
    rw [sum_half] at this
    exact this
  have HLk : Hid (∀ (E L S : Option Addr) (cE cL cS : Nat) W, CB w W.heap.size E L S cE cL cS 5 4 [2, 1, 2, 1, 0] W → True) := Lib.hid fun _ _ _ _ _ _ _ _ => trivial
  have HL : Hid (∀ (B : Nat) (E L S : Option Addr) (cE cL cS : Nat) W, CB w B E L S cE cL cS 5 4 [2, 1, 2, 1, 0] W → Calls Tryz.prog 12 #[.agg #[.slice E 5 cE, .int .i64 5, .int .i64 10, .slice L 10 cL, .slice S 4 cS], .slice (some ⟨W.heap.size, 0, none⟩) 2 2, .int .i64 1] (W.alloc (.cells #[.int .i64 1, .int .i64 2] 3)) fun e w' => e = .returned (.agg #[.int .i64 (p.1 : Nat), .int .i64 (p.2 : Nat)]) ∧ CB w B E L S cE cL cS 5 4 [2, 1, 2, 1, 0] w') := Lib.hid fun B E L S cE cL cS W h => by
    have J := h.on ((Below.refl _ _).alloc (Nat.le_refl _) (.cells #[.int .i64 1, .int .i64 2] 3))
    have h2 := likelyF_yes E L S (some ⟨W.heap.size, 0, none⟩) cE cL cS 5 4 2 2 1 [2, 1, 2, 1, 0] [1, 2] _ J.cmb rfl (by rw [five_most]) J.capE J.capL (irow_new W [1, 2] 3) rfl (by omega) (by omega) (by decide) (by omega) (by rw [five_most]; omega)
    rw [hp] at h2
    exact h2.mono fun e w' hh => ⟨hh.1, J.on hh.2⟩
  clear HLk hp
  go_enter Tryz.func10, Tryz.ntmps10
  go_wp2_with fail
  with_reducible refine (HM.out _ rfl).mono ?_
  rintro e w1 ⟨E, L, S, cE, cL, cS, rfl, hE, hL, hC, hb⟩
  have J0 : CB w w1.heap.size E L S cE cL cS 5 4 [2, 1, 2, 1, 0] (w1.alloc (.cells #[.slice E 5 cE, .int .i64 5, .int .i64 10, .slice L 10 cL, .slice S 4 cS] 33)) := CB.start hC rfl (by rw [five_most]) hE hL hb 33
  clear HM hC hb hE hL
  go_wp2_with fail
  with_reducible refine (HA.out _).mono ?_
  rintro e w2 ⟨rfl, hb2⟩
  have J1 := J0.on hb2
  clear HA J0 hb2
  have c0 := J1.c0
  have c1 := J1.c1
  have c2 := J1.c2
  have c3 := J1.c3
  have c4 := J1.c4
  go_wp2_with fail
  with_reducible refine (HL.out _ _ _ _ _ _ _ _ J1).mono ?_
  rintro e w3 ⟨rfl, J2⟩
  have hold := J2.old
  have hz : (0 : Int) < ((p.1 : Nat) : Int) := by omega
  clear HL J1 J2 c0 c1 c2 c3 c4
  have hfd : ∀ W : World, (Instr.field 24 (.agg #[.int .i64 (p.1 : Nat), .int .i64 (p.2 : Nat)]) 0).run Tryz.prog W = .ok (.int .i64 (p.1 : Nat)) W := fun W => field_part _ _ W
  go_wp2
  go_ret
  exact ⟨by first | rfl | simp, hold⟩

/-- is it a small part? -/
def smallB (N D : Int) : Bool := decide (0 ≤ N) && decide (N ≤ 1048576) && decide (1 ≤ D) && decide (D ≤ 1048576) && ((((Pt.red N.toNat D.toNat).1 : Nat) : Int) == N && (((Pt.red N.toNat D.toNat).2 : Nat) : Int) == D)
theorem small_in {N D : Int} (h : smallB N D = true) : 0 ≤ N ∧ N ≤ 1048576 ∧ 1 ≤ D ∧ D ≤ 1048576 := by
  unfold smallB at h
  simp only [Bool.and_eq_true, decide_eq_true_eq] at h
  omega
theorem small_out {N D : Int} (h : ¬ (0 ≤ N ∧ N ≤ 1048576 ∧ 1 ≤ D ∧ D ≤ 1048576)) : smallB N D = false := by
  cases hh : smallB N D
  · rfl
  · exact absurd (small_in hh) h
theorem small_nat (n d : Nat) (h1 : n ≤ 1048576) (h2 : 1 ≤ d) (h3 : d ≤ 1048576) : smallB n d = (((((Pt.red n d).1 : Nat) : Int) == ((n : Nat) : Int)) && ((((Pt.red n d).2 : Nat) : Int) == ((d : Nat) : Int))) := by
  unfold smallB
  rw [decide_eq_true (show (0 : Int) ≤ (n : Int) by omega), decide_eq_true (show (n : Int) ≤ 1048576 by omega), decide_eq_true (show (1 : Int) ≤ (d : Int) by omega), decide_eq_true (show (d : Int) ≤ 1048576 by omega)]
  simp only [Bool.true_and, Int.toNat_natCast]

set_option maxRecDepth 100000 in
set_option maxHeartbeats 2000000 in
theorem small_any (N D : Int) (w : World) (h1 : -9223372036854775808 ≤ N) (h2 : N ≤ 9223372036854775807) (h3 : -9223372036854775808 ≤ D) (h4 : D ≤ 9223372036854775807) :
    Calls Tryz.prog 4 #[.agg #[.int .i64 N, .int .i64 D]] w fun e w' => e = .returned (.bool (smallB N D)) ∧ Below w.heap.size w w' := by
  have P0 := Bx2.new (Below.refl w.heap.size w) (.int .i64 N) (.int .i64 D) 24
  by_cases k1 : 0 ≤ N
  · have z1 : decide (0 ≤ N) = true := decide_eq_true k1
    by_cases k2 : N ≤ 1048576
    · have z2 : decide (N ≤ 1048576) = true := decide_eq_true k2
      by_cases k3 : 1 ≤ D
      · have z3 : decide (1 ≤ D) = true := decide_eq_true k3
        by_cases k4 : D ≤ 1048576
        · have z4 : decide (D ≤ 1048576) = true := decide_eq_true k4
          obtain ⟨n, rfl⟩ := Int.eq_ofNat_of_zero_le k1
          obtain ⟨d, rfl⟩ := Int.eq_ofNat_of_zero_le (show 0 ≤ D by omega)
          have HB := Lib.hid (small_nat n d (by omega) (by omega) (by omega))
          have HT : Hid (∀ W, Calls Tryz.prog 5 #[.agg #[.int .i64 n, .int .i64 d], .agg #[.int .i64 1, .int .i64 1]] W fun e w' => e = .returned (.agg #[.int .i64 ((Pt.red n d).1 : Nat), .int .i64 ((Pt.red n d).2 : Nat)]) ∧ Below W.heap.size W w') := Lib.hid fun W => by
            have := timesR_any n d 1 1 W (by omega) (by omega) (by omega) (by omega)
            rw [show Pt.timP (n, d) (1, 1) = Pt.red n d from by unfold Pt.timP; simp] at this
            exact this
          generalize Pt.red n d = r at *
          obtain ⟨r1, r2⟩ := r
          rw [HB.out]
          clear HB k1 k2 k3 k4
          dsimp only at HT ⊢
          by_cases e1 : r1 = n
          · subst e1
            rw [show ((r1 : Int) == (r1 : Int)) = true from by simp, Bool.true_and]
            by_cases e2 : r2 = d
            · subst e2
              rw [show ((r2 : Int) == (r2 : Int)) = true from by simp]
              go_enter Tryz.func4, Tryz.ntmps4
              go_wp2_with fail
              have a0 := P0.drew.c0
              have a1 := P0.drew.c1
              have hP := P0.drew
              generalize w.alloc (.cells #[.int .i64 r1, .int .i64 r2] 24) = V at *
              go_region_held3 (fun w' => w'.cell? ⟨w.heap.size, 0, none⟩ = some (.int .i64 r1) ∧ w'.cell? ⟨w.heap.size, 1, none⟩ = some (.int .i64 r2))
                (first | exact ⟨a0, a1⟩ | exact ⟨P2.c0, P2.c1⟩ | go_keep)
                ((go_at_call 5; (with_reducible refine (HT.out _).mono ?_); rintro e w2 ⟨rfl, hb2⟩; have P2 := hP.on hb2))
              all_goals
                go_wp2
                go_ret
                exact ⟨by first | rfl | simp, P2.old⟩
            · have e3 : ((r2 : Int) == (d : Int)) = false := by simp; omega
              have e4 : ¬ ((r2 : Int) = (d : Int)) := by omega
              rw [e3]
              go_enter Tryz.func4, Tryz.ntmps4
              go_wp2_with fail
              have a0 := P0.drew.c0
              have a1 := P0.drew.c1
              have hP := P0.drew
              generalize w.alloc (.cells #[.int .i64 r1, .int .i64 d] 24) = V at *
              go_region_held3 (fun w' => w'.cell? ⟨w.heap.size, 0, none⟩ = some (.int .i64 r1) ∧ w'.cell? ⟨w.heap.size, 1, none⟩ = some (.int .i64 d))
                (first | exact ⟨a0, a1⟩ | exact ⟨P2.c0, P2.c1⟩ | go_keep)
                ((go_at_call 5; (with_reducible refine (HT.out _).mono ?_); rintro e w2 ⟨rfl, hb2⟩; have P2 := hP.on hb2))
              all_goals
                go_wp2
                go_ret
                exact ⟨by first | rfl | simp, P2.old⟩
          · have e3 : ((r1 : Int) == (n : Int)) = false := by simp; omega
            have e4 : ¬ ((r1 : Int) = (n : Int)) := by omega
            rw [e3, Bool.false_and]
            go_enter Tryz.func4, Tryz.ntmps4
            go_wp2_with fail
            have a0 := P0.drew.c0
            have a1 := P0.drew.c1
            have hP := P0.drew
            generalize w.alloc (.cells #[.int .i64 n, .int .i64 d] 24) = V at *
            go_region_held3 (fun w' => w'.cell? ⟨w.heap.size, 0, none⟩ = some (.int .i64 n) ∧ w'.cell? ⟨w.heap.size, 1, none⟩ = some (.int .i64 d))
              (first | exact ⟨a0, a1⟩ | exact ⟨P2.c0, P2.c1⟩ | go_keep)
              ((go_at_call 5; (with_reducible refine (HT.out _).mono ?_); rintro e w2 ⟨rfl, hb2⟩; have P2 := hP.on hb2))
            all_goals
              go_wp2
              go_ret
              exact ⟨by first | rfl | simp, P2.old⟩
        · have z4 : decide (D ≤ 1048576) = false := decide_eq_false k4
          have HB := Lib.hid (small_out (N := N) (D := D) (by omega))
          rw [HB.out]
          clear HB
          have hold := P0.old
          have a0 := P0.c0
          have a1 := P0.c1
          go_enter Tryz.func4, Tryz.ntmps4
          go_wp2_with fail
          go_quiet (fail)
          go_wp2
          go_ret
          exact ⟨rfl, Below.drewN hold _⟩
      · have z3 : decide (1 ≤ D) = false := decide_eq_false k3
        have HB := Lib.hid (small_out (N := N) (D := D) (by omega))
        rw [HB.out]
        clear HB
        have hold := P0.old
        have a0 := P0.c0
        have a1 := P0.c1
        go_enter Tryz.func4, Tryz.ntmps4
        go_wp2_with fail
        go_quiet (fail)
        go_wp2
        go_ret
        exact ⟨rfl, Below.drewN hold _⟩
    · have z2 : decide (N ≤ 1048576) = false := decide_eq_false k2
      have HB := Lib.hid (small_out (N := N) (D := D) (by omega))
      rw [HB.out]
      clear HB
      have hold := P0.old
      have a0 := P0.c0
      have a1 := P0.c1
      go_enter Tryz.func4, Tryz.ntmps4
      go_wp2_with fail
      go_quiet (fail)
      go_wp2
      go_ret
      exact ⟨rfl, Below.drewN hold _⟩
  · have z1 : decide (0 ≤ N) = false := decide_eq_false k1
    have HB := Lib.hid (small_out (N := N) (D := D) (by omega))
    rw [HB.out]
    clear HB
    have hold := P0.old
    have a0 := P0.c0
    have a1 := P0.c1
    go_enter Tryz.func4, Tryz.ntmps4
    go_wp2_with fail
    go_quiet (fail)
    go_wp2
    go_ret
    exact ⟨rfl, Below.drewN hold _⟩

end Go.Proofs.YtffhphcgmgkgbabGreatDoor
