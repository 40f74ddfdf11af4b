/- The reference's LikelyOf; 'guesses' of the second package; the closure that asks for small parts. -/
import Derived.Test.YtoejenejleocdabGreatDoorHb
import Derived.Test.YtoejenejleocdabGreatDoorJz
namespace Go.Proofs.YtoejenejleocdabGreatDoor
open Go.RowKit
attribute [local irreducible] Bt.pop Bt.popF

theorem likelyRf_any (l : List Int) (x : Nat) (hg : En.Sg l) (hl : l.length ≤ 150) (hfit : En.most l < 1024) (h1 : 1 ≤ x) (h2 : x ≤ En.most l) : ∀ (s : List Int), s.length ≤ 2 → LkOk l x s
  | [], hs => likelyR_step l x [] hg hl hfit h1 h2 hs (fun y t h => by cases h)
  | z :: r, hs => likelyR_step l x (z :: r) hg hl hfit h1 h2 hs (fun y t h => by
      injection h with _ h
      subst h
      exact likelyRf_any l x hg hl hfit h1 h2 r (by simp at hs; omega))

set_option maxRecDepth 100000 in
set_option maxHeartbeats 2000000 in
theorem likelyOf_any (A A2 : Option Addr) (c c2 N n m : Nat) (x : Int) (l s : List Int) (w : World) (hN : N = l.length) (hn : n = s.length) (hm : m = En.most l) (hr : IRow w w.heap.size A l) (hr2 : IRow w w.heap.size A2 s) (hc2 : n ≤ c2) (hg : En.Sg l) (hl : l.length ≤ 150) (hfit : En.most l < 1024) (hs : n ≤ 17592186044416) :
    Calls Tryz.prog 21 #[.slice A N c, .slice A2 n c2, .int .i64 x, .int .i64 m] w fun e w' => e = .returned (.agg #[.int .i64 ((Pt.lik l s x).1 : Nat), .int .i64 ((Pt.lik l s x).2 : Nat)]) ∧ Below w.heap.size w w' := by
  by_cases hx : x ≤ 0 ∨ (En.most l : Int) < x
  · rw [Pt.lik_no hx, ← hm] at *
    clear hm hr hr2 hN hn hg hl hfit
    by_cases h0 : x < 1
    · go_enter Tryz.func21, Tryz.ntmps21
      go_wp2
      refine bodyPost_ret (v := .agg #[.int .i64 0, .int .i64 1]) (by simp [results, Tryz.results21, go_sem]) rfl ⟨rfl, (Below.refl _ w).alloc (Nat.le_refl _) _⟩
    · have h1 : (m : Int) < x := by omega
      clear hx
      go_enter Tryz.func21, Tryz.ntmps21
      go_wp2
      refine bodyPost_ret (v := .agg #[.int .i64 0, .int .i64 1]) (by simp [results, Tryz.results21, go_sem]) rfl ⟨rfl, (Below.refl _ w).alloc (Nat.le_refl _) _⟩
  · obtain ⟨y, rfl⟩ := Int.eq_ofNat_of_zero_le (show 0 ≤ x by omega)
    have h1 : 1 ≤ y := by omega
    have h2 : y ≤ En.most l := by omega
    rw [Pt.lik_yes l s y h1 h2]
    have hlk := likelyRf_any l y hg hl hfit h1 h2 (Pt.last2 s) (by rw [Pt.last2_len]; omega)
    have hb0 := (Below.refl _ w).alloc (Nat.le_refl _) (.cells #[.int .i64 0, .int .i64 0] 24)
    have R0 := Bx2.new (Below.refl w.heap.size w) (.int .i64 0) (.int .i64 0) 24
    have z1 : ¬ ((y : Int) < 1) := by omega
    have z2 : ¬ ((m : Int) < (y : Int)) := by omega
    by_cases h3 : n ≤ 2
    · have e : Pt.last2 s = s := by unfold Pt.last2; rw [show s.length - 2 = 0 from by omega, List.drop_zero]
      rw [e] at hlk
      rw [e]
      have HLk := Lib.hid (hlk A A2 c c2 N n _ hN hn (hr.on hb0) (hr2.on hb0) hc2)
      rw [← hm] at HLk
      have z3 : ¬ ((2 : Int) < (n : Int)) := by omega
      have HE : Hid (((n : Int) == 2) = decide (n = 2)) := Lib.hid (by rw [Bool.eq_iff_iff]; simp; omega)
      clear hlk e hm hr hr2 hN hn hg hl hfit hb0 hx
      generalize Pt.red (Pt.lv l y s).1 (Pt.lv l y s).2 = q at *
      generalize decide (n = 2) = lg at *
      have e2 : ((n : Int) == 2) = lg := HE.out
      go_enter Tryz.func21, Tryz.ntmps21
      go_wp2_with fail
      with_reducible refine HLk.out.mono ?_
      rintro e w2 ⟨rfl, hb2⟩
      have R1 := R0.on hb2
      clear HLk hb2 R0
      have r0 := R1.c0
      have r1 := R1.c1
      have f0 := R1.f0
      have f1 := R1.f1
      have R2 := R1.set (.int .i64 (q.1 : Nat)) (.int .i64 (q.2 : Nat))
      clear R1
      go_wp2
      have c0 := R2.c0
      have c1 := R2.c1
      refine bodyPost_ret (v := .agg #[.int .i64 (q.1 : Nat), .int .i64 (q.2 : Nat)]) (by simp [results, Tryz.results21, go_sem, c0, c1]) rfl ⟨rfl, R2.old⟩
    · have hsub := irow_sub hr2 c2 (s.length - 2) (by omega)
      have HLk := Lib.hid (hlk A (subA A2 c2 (s.length - 2)) c (c2 - (n - 2)) N 2 _ hN (by rw [Pt.last2_len]; omega) (hr.on hb0) (hsub.on hb0) (by omega))
      rw [← hm, show s.length - 2 = n - 2 from by omega, show decide ((2 : Nat) = 2) = true from rfl] at HLk
      have hA : subA A2 c2 (n - 2) = Option.map (fun x => x.add (n - 2)) A2 := by unfold subA; rw [if_neg (by omega)]
      rw [hA] at HLk
      have hz3 : (2 : Int) < (n : Int) := by omega
      clear hlk hm hr hr2 hN hn hg hl hfit hb0 hx hsub hA
      generalize Pt.red (Pt.lv l y (Pt.last2 s)).1 (Pt.lv l y (Pt.last2 s)).2 = q at *
      have e1 : ((n : Int) - 2).toNat = n - 2 := by omega
      have e2 : n - (n - 2) = 2 := by omega
      have hcn : ¬ c2 = n - 2 := by omega
      go_enter Tryz.func21, Tryz.ntmps21
      go_wp2_with fail
      with_reducible refine HLk.out.mono ?_
      rintro e w2 ⟨rfl, hb2⟩
      have R1 := R0.on hb2
      clear HLk hb2 R0
      have r0 := R1.c0
      have r1 := R1.c1
      have f0 := R1.f0
      have f1 := R1.f1
      have R2 := R1.set (.int .i64 (q.1 : Nat)) (.int .i64 (q.2 : Nat))
      clear R1
      go_wp2
      have c0 := R2.c0
      have c1 := R2.c1
      refine bodyPost_ret (v := .agg #[.int .i64 (q.1 : Nat), .int .i64 (q.2 : Nat)]) (by simp [results, Tryz.results21, go_sem, c0, c1]) rfl ⟨rfl, R2.old⟩

end Go.Proofs.YtoejenejleocdabGreatDoor
