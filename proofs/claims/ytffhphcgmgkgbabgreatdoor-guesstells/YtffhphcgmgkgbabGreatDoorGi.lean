/- likely of package guess: how likely a sign is by what was seen. -/
import Derived.Test.YtffhphcgmgkgbabGreatDoorGh
namespace Go.Proofs.YtffhphcgmgkgbabGreatDoor
open Go.RowKit
attribute [local irreducible] Bt.pop Bt.popF

theorem Bx2.other {w : World} {B : Nat} {x y : Value} {W : World} (h : Bx2 w B x y W) (X : Nat) (hX : B ≠ X) (hw : w.heap.size ≤ X) (x' y' : Value) : Bx2 w B x y ((W.setCell ⟨X, 0, none⟩ x').setCell ⟨X, 1, none⟩ y') := by
  have far : ∀ o, ((W.setCell ⟨X, 0, none⟩ x').setCell ⟨X, 1, none⟩ y').cell? ⟨B, o, none⟩ = W.cell? ⟨B, o, none⟩ := fun o => by
    rw [World.cell?_setCell_far _ ⟨X, 1, none⟩ ⟨B, o, none⟩ _ (Ne.symm hX), World.cell?_setCell_far _ ⟨X, 0, none⟩ ⟨B, o, none⟩ _ (Ne.symm hX)]
  exact ⟨(far 0).trans h.c0, (far 1).trans h.c1, by simpa using h.f0, by simpa using h.f1, by simpa using h.lt, h.ge, (h.old.setCell (p := ⟨X, 0, none⟩) hw _).setCell (p := ⟨X, 1, none⟩) hw _⟩

namespace Pt
theorem step_ok (o t a : Nat) (p : Nat × Nat) (ho : o ≤ 600) (ht : t ≤ 600) (ha : a ≤ 600) (h1 : p.1 ≤ 221184000000) (h2 : p.2 ≤ 221184000000) :
    t * p.1 < 9223372036854775808 ∧ a * p.2 < 9223372036854775808 ∧ o * (timP (t, a) p).2 + (timP (t, a) p).1 * a < 9223372036854775808 ∧ a * (timP (t, a) p).2 < 9223372036854775808 := by
  have k1 : t * p.1 ≤ 600 * 221184000000 := Nat.mul_le_mul ht h1
  have k2 : a * p.2 ≤ 600 * 221184000000 := Nat.mul_le_mul ha h2
  have r := red_le (t * p.1) (a * p.2)
  have e : timP (t, a) p = red (t * p.1) (a * p.2) := rfl
  rw [e]
  generalize red (t * p.1) (a * p.2) = q at *
  have k3 : o * q.2 ≤ 600 * 132710400000000 := Nat.mul_le_mul ho (by omega)
  have k4 : q.1 * a ≤ 132710400000000 * 600 := Nat.mul_le_mul (by omega) ha
  have k5 : a * q.2 ≤ 600 * 132710400000000 := Nat.mul_le_mul ha (by omega)
  omega
end Pt

/-- the step of a round -/
theorem likely_step {l : List Int} (h : En.Sg l) (hl : l.length ≤ 150) (hm : En.most l < 1024) (x : Nat) (h1 : 1 ≤ x) (h2 : x ≤ En.most l) (s : List Int) (hs : s.length ≤ 2) (j : Nat) (hj : j ≤ s.length) (hu : 0 < Pt.unl l (s.drop (s.length - j))) :
    ∃ p : Nat × Nat, p = Pt.red (Pt.sofar l x s j).1 (Pt.sofar l x s j).2 ∧ 1 ≤ p.2 ∧ p.1 ≤ 221184000000 ∧ p.2 ≤ 221184000000 ∧
      4 * Pt.wt l (s.drop (s.length - j)) x - 3 ≤ 600 ∧ 3 * Pt.unl l (s.drop (s.length - j)) ≤ 600 ∧ 4 * Pt.all l (s.drop (s.length - j)) ≤ 600 ∧ 1 ≤ 4 * Pt.all l (s.drop (s.length - j)) ∧
      Pt.sumP (4 * Pt.wt l (s.drop (s.length - j)) x - 3, 4 * Pt.all l (s.drop (s.length - j))) (Pt.timP (3 * Pt.unl l (s.drop (s.length - j)), 4 * Pt.all l (s.drop (s.length - j))) p) = Pt.red (Pt.sofar l x s (j + 1)).1 (Pt.sofar l x s (j + 1)).2 := by
  have hw := Pt.wt_all h (s.drop (s.length - j)) x h1 h2
  have hul := Pt.unl_le h (s.drop (s.length - j))
  have hal := Pt.all_le h (s.drop (s.length - j))
  have hp := Pt.sofar_pos h (by omega) x s j
  have hle := Pt.sofar_le h x h1 h2 s j
  have hsm := Pt.sofar_small h hl hm x s hs j
  have hr := Pt.red_le (Pt.sofar l x s j).1 (Pt.sofar l x s j).2
  have hrp := Pt.red_pos (Pt.sofar l x s j).1 (Pt.sofar l x s j).2 hp.2
  refine ⟨_, rfl, hrp, by omega, by omega, by omega, by omega, by omega, by omega, ?_⟩
  rw [Pt.stp_red _ _ _ _ (by omega) hp.2, Pt.sofar_succ l x s j hj]
  unfold Pt.stpS
  rw [if_neg (by omega)]

set_option maxRecDepth 100000 in
set_option maxHeartbeats 4000000 in
theorem likely_any (A : Option Addr) (k c x : Nat) (l s : List Int) (w : World) (h : Seen w A l s k) (hg : En.Sg l) (hl : l.length ≤ 150) (hm : En.most l < 1024) (h1 : 1 ≤ x) (h2 : x ≤ En.most l) (hs : s.length ≤ 2) :
    Calls Tryz.prog 25 #[.slice A k c, .int .i64 x, .int .i64 (En.most l : Nat)] w fun e w' => e = .returned (.agg #[.int .i64 ((Pt.red (Pt.lv l x s).1 (Pt.lv l x s).2).1 : Nat), .int .i64 ((Pt.red (Pt.lv l x s).1 (Pt.lv l x s).2).2 : Nat)]) ∧ Below w.heap.size w w' := by
  have HSt : Hid (∀ j, j < k → ∃ b o g a u y, A = some ⟨b, o, none⟩ ∧ b < w.heap.size ∧ w.cell? ⟨b, o + j * 3, none⟩ = some (.slice (some ⟨g, 0, none⟩) (En.most l + 1) (En.most l + 1)) ∧ w.cell? ⟨b, o + j * 3 + 1, none⟩ = some (.int .i64 ((a : Nat) : Int)) ∧ w.cell? ⟨b, o + j * 3 + 2, none⟩ = some (.int .i64 ((u : Nat) : Int)) ∧ g < w.heap.size ∧ w.cell? ⟨g, x, none⟩ = some (.int .i64 ((y : Nat) : Int)) ∧ u ≤ a ∧ y ≤ a ∧ a ≤ 150 ∧ 1 ≤ u ∧
      ∃ p : Nat × Nat, p = Pt.red (Pt.sofar l x s j).1 (Pt.sofar l x s j).2 ∧ 1 ≤ p.2 ∧ p.1 ≤ 221184000000 ∧ p.2 ≤ 221184000000 ∧ Pt.sumP (4 * y - 3, 4 * a) (Pt.timP (3 * u, 4 * a) p) = Pt.red (Pt.sofar l x s (j + 1)).1 (Pt.sofar l x s (j + 1)).2) := Lib.hid fun j hj => by
    obtain ⟨b, o, e, hb, hc⟩ := h.row (by omega)
    obtain ⟨g, q1, q2, q3, q4, q5⟩ := hc j hj
    have hle := h.le
    have hjs : j ≤ s.length := by omega
    obtain ⟨p, e1, e2, e3, e4, _, _, _, _, e9⟩ := likely_step hg hl hm x h1 h2 s hs j hjs q5
    have hal := Pt.all_le hg (s.drop (s.length - j))
    refine ⟨b, o, g, _, _, Pt.wt l (s.drop (s.length - j)) x, e, hb, q1, q2, q3, q4.lt, ?_, Pt.unl_le hg _, Pt.wt_all hg _ x h1 h2, by omega, q5, p, e1, e2, e3, e4, e9⟩
    have := q4.cell (i := x) (by omega)
    unfold Pt.wz at this
    rwa [if_neg (by omega)] at this
  have HEnd : Hid (Pt.sofar l x s k = Pt.lv l x s) := Lib.hid (by
    rcases h.stop with h0 | h0
    · rw [h0]; exact Pt.sofar_all l x s
    · have := h.le; exact Pt.sofar_stop l x s (s.length + 1 - k) k (by omega) h0)
  have HZ : Hid (Pt.red (Pt.sofar l x s 0).1 (Pt.sofar l x s 0).2 = (1, En.most l)) := Lib.hid (by rw [Pt.sofar_zero]; exact Pt.red_unit _)
  have hkl : k ≤ 3 := by have := h.le; omega
  clear h
  rw [← HEnd.out]
  generalize hmm : En.most l = m at *
  have R0 := Bx2.new (Below.refl w.heap.size w) (.int .i64 0) (.int .i64 0) 24
  have P0 := Bx2.new' R0.old (w.heap.size + 1) (by simp) (.int .i64 1) (.int .i64 m) 24
  have R1 := R0.on ((Below.refl _ _).alloc (Nat.le_refl _) (.cells #[.int .i64 1, .int .i64 m] 24))
  clear R0 hmm
  go_enter Tryz.func25, Tryz.ntmps25
  go_wp2
  go_loopw [16] (fun t W => ∃ (j : Nat) (p : Nat × Nat), j ≤ k ∧ t = .int .i64 j ∧ p = Pt.red (Pt.sofar l x s j).1 (Pt.sofar l x s j).2 ∧ Bx2 w w.heap.size (.int .i64 0) (.int .i64 0) W ∧ Bx2 w (w.heap.size + 1) (.int .i64 (p.1 : Nat)) (.int .i64 (p.2 : Nat)) W) (fun t _ => k - (intOf t).toNat)
  case atStart => exact ⟨0, (1, m), Nat.zero_le _, rfl, HZ.out.symm, R1, P0⟩
  case round =>
    obtain ⟨j, p, hj, rfl, hp, R, P⟩ := hrel
    have HP := Lib.hid hp
    clear hp R1 P0 HZ
    generalize wr = V at *
    by_cases hlt : j < k
    · have hlz : (j : Int) < (k : Int) := by omega
      obtain ⟨b, o, g, a, u, y, rfl, hb, d0, d1, d2, hgl, d3, hua, hya, ha, hu, p', hp', t1, t2, t3, t4⟩ := HSt.out j hlt
      have hpp : p' = p := by rw [hp', HP.out]
      subst hpp
      have HT4 := Lib.hid t4
      clear t4 hp' HP HSt HEnd
      have n0 : V.cell? ⟨b, o + j * 3, none⟩ = some (.slice (some ⟨g, 0, none⟩) (m + 1) (m + 1)) := (R.old.cell (p := ⟨b, o + j * 3, none⟩) hb).trans d0
      have n1 : V.cell? ⟨b, o + j * 3 + 1, none⟩ = some (.int .i64 a) := (R.old.cell (p := ⟨b, o + j * 3 + 1, none⟩) hb).trans d1
      have n2 : V.cell? ⟨b, o + j * 3 + 2, none⟩ = some (.int .i64 u) := (R.old.cell (p := ⟨b, o + j * 3 + 2, none⟩) hb).trans d2
      have n3 : V.cell? ⟨g, x, none⟩ = some (.int .i64 y) := (R.old.cell (p := ⟨g, x, none⟩) hgl).trans d3
      have hbV : b < V.heap.size := Nat.lt_of_lt_of_le hb R.old.size
      have hgV : g < V.heap.size := Nat.lt_of_lt_of_le hgl R.old.size
      clear d0 d1 d2 d3 hb hgl
      go_wp2
      clear n0 n1 n2
      have R1 := R.on ((Below.refl _ V).alloc (Nat.le_refl _) (.cells #[.slice (some ⟨g, 0, none⟩) (m + 1) (m + 1), .int .i64 a, .int .i64 u] 69))
      have P1 := P.on ((Below.refl _ V).alloc (Nat.le_refl _) (.cells #[.slice (some ⟨g, 0, none⟩) (m + 1) (m + 1), .int .i64 a, .int .i64 u] 69))
      have m0 : (V.alloc (.cells #[.slice (some ⟨g, 0, none⟩) (m + 1) (m + 1), .int .i64 a, .int .i64 u] 69)).cell? ⟨V.heap.size, 0, none⟩ = some (.slice (some ⟨g, 0, none⟩) (m + 1) (m + 1)) := by simp
      have m1 : (V.alloc (.cells #[.slice (some ⟨g, 0, none⟩) (m + 1) (m + 1), .int .i64 a, .int .i64 u] 69)).cell? ⟨V.heap.size, 1, none⟩ = some (.int .i64 a) := by simp
      have m2 : (V.alloc (.cells #[.slice (some ⟨g, 0, none⟩) (m + 1) (m + 1), .int .i64 a, .int .i64 u] 69)).cell? ⟨V.heap.size, 2, none⟩ = some (.int .i64 u) := by simp
      have m3 : (V.alloc (.cells #[.slice (some ⟨g, 0, none⟩) (m + 1) (m + 1), .int .i64 a, .int .i64 u] 69)).cell? ⟨g, x, none⟩ = some (.int .i64 y) := (World.cell?_alloc_lt _ _ _ hgV).trans n3
      have hsz : (V.alloc (.cells #[.slice (some ⟨g, 0, none⟩) (m + 1) (m + 1), .int .i64 a, .int .i64 u] 69)).heap.size = V.heap.size + 1 := by simp
      have HSz := Lib.hid hsz
      clear n3 hsz R P hbV
      generalize V.alloc (.cells #[.slice (some ⟨g, 0, none⟩) (m + 1) (m + 1), .int .i64 a, .int .i64 u] 69) = V1 at *
      have hVlt : V.heap.size < V1.heap.size := by rw [HSz.out]; omega
      have hgV1 : g < V1.heap.size := by rw [HSz.out]; omega
      have v1 : IntKind.i64.wrap (4 * (y : Int)) = 4 * (y : Int) := w64 _ (by omega) (by omega)
      have v2 : IntKind.i64.wrap (4 * (y : Int) - 3) = 4 * (y : Int) - 3 := w64 _ (by omega) (by omega)
      have v3 : IntKind.i64.wrap (4 * (a : Int)) = 4 * (a : Int) := w64 _ (by omega) (by omega)
      have hxm : (x : Int) < (m : Int) + 1 := by omega
      have hxm2 : x < m + 1 := by omega
      go_region
      go_wp2
      clear m0 m1 m2 m3 v1 v2 v3
      have HTm : Hid (∀ W, Calls Tryz.prog 8 #[.agg #[.int .i64 (3 * (u : Int)), .int .i64 (4 * (a : Int))], .agg #[.int .i64 (p'.1 : Nat), .int .i64 (p'.2 : Nat)]] W fun e w' => e = .returned (.agg #[.int .i64 ((Pt.timP (3 * u, 4 * a) p').1 : Nat), .int .i64 ((Pt.timP (3 * u, 4 * a) p').2 : Nat)]) ∧ Below W.heap.size W w') := Lib.hid fun W => by
        obtain ⟨z1, z2, _, _⟩ := Pt.step_ok (4 * y - 3) (3 * u) (4 * a) p' (by omega) (by omega) (by omega) t2 t3
        have := times_any (3 * u) (4 * a) p'.1 p'.2 W (by omega) t1 z1 z2
        rwa [show ((3 * u : Nat) : Int) = 3 * (u : Int) from by omega, show ((4 * a : Nat) : Int) = 4 * (a : Int) from by omega] at this
      have HAd : Hid (∀ W, Calls Tryz.prog 6 #[.agg #[.int .i64 (max 0 (4 * (y : Int) - 3)), .int .i64 (4 * (a : Int))], .agg #[.int .i64 ((Pt.timP (3 * u, 4 * a) p').1 : Nat), .int .i64 ((Pt.timP (3 * u, 4 * a) p').2 : Nat)]] W fun e w' => e = .returned (.agg #[.int .i64 ((Pt.red (Pt.sofar l x s (j + 1)).1 (Pt.sofar l x s (j + 1)).2).1 : Nat), .int .i64 ((Pt.red (Pt.sofar l x s (j + 1)).1 (Pt.sofar l x s (j + 1)).2).2 : Nat)]) ∧ Below W.heap.size W w') := Lib.hid fun W => by
        obtain ⟨_, _, z3, z4⟩ := Pt.step_ok (4 * y - 3) (3 * u) (4 * a) p' (by omega) (by omega) (by omega) t2 t3
        have hpos : 1 ≤ (Pt.timP (3 * u, 4 * a) p').2 := Pt.red_pos _ _ (Nat.mul_pos (by show 0 < 4 * a; omega) t1)
        have := add_any (4 * y - 3) (4 * a) (Pt.timP (3 * u, 4 * a) p').1 (Pt.timP (3 * u, 4 * a) p').2 W (by omega) hpos z3 z4
        rw [show ((Pt.timP (3 * u, 4 * a) p').1, (Pt.timP (3 * u, 4 * a) p').2) = Pt.timP (3 * u, 4 * a) p' from rfl, HT4.out] at this
        rwa [show ((4 * y - 3 : Nat) : Int) = max 0 (4 * (y : Int) - 3) from by omega, show ((4 * a : Nat) : Int) = 4 * (a : Int) from by omega] at this
      clear HT4
      generalize Pt.timP (3 * u, 4 * a) p' = tq at *
      generalize hpn : Pt.red (Pt.sofar l x s (j + 1)).1 (Pt.sofar l x s (j + 1)).2 = pn at *
      have HPn := Lib.hid hpn
      clear hpn
      have O1 := Bx2.new R1.old (.int .i64 (max 0 (4 * (y : Int) - 3))) (.int .i64 (4 * (a : Int))) 24
      have hbO : Below V1.heap.size V1 (V1.alloc (.cells #[.int .i64 (max 0 (4 * (y : Int) - 3)), .int .i64 (4 * (a : Int))] 24)) := (Below.refl _ _).alloc (Nat.le_refl _) _
      have T1 := Bx2.new' O1.old (V1.heap.size + 1) (by simp) (.int .i64 (3 * (u : Int))) (.int .i64 (4 * (a : Int))) 24
      have hbT := (Below.refl (V1.alloc (.cells #[.int .i64 (max 0 (4 * (y : Int) - 3)), .int .i64 (4 * (a : Int))] 24)).heap.size (V1.alloc (.cells #[.int .i64 (max 0 (4 * (y : Int) - 3)), .int .i64 (4 * (a : Int))] 24))).alloc (Nat.le_refl _) (.cells #[.int .i64 (3 * (u : Int)), .int .i64 (4 * (a : Int))] 24)
      have O2 := (O1.on hbT).drew
      have T2 := T1.drew
      have R2 := ((R1.on hbO).on hbT).drew
      have P2 := ((P1.on hbO).on hbT).drew
      clear O1 T1 R1 P1 hbO hbT
      generalize ((V1.alloc (.cells #[.int .i64 (max 0 (4 * (y : Int) - 3)), .int .i64 (4 * (a : Int))] 24)).alloc (.cells #[.int .i64 (3 * (u : Int)), .int .i64 (4 * (a : Int))] 24)).drew = V2 at *
      have O3 := O2.drew
      have T3 := T2.drew
      have R3 := R2.drew
      have P3 := P2.drew
      refine wp_region_takes 5 [0, 1, 2] [3, 4] (fun w' => w'.cell? ⟨V1.heap.size, 0, none⟩ = some (.int .i64 (max 0 (4 * (y : Int) - 3))) ∧ w'.cell? ⟨V1.heap.size, 1, none⟩ = some (.int .i64 (4 * (a : Int))) ∧ w'.cell? ⟨V1.heap.size + 1, 0, none⟩ = some (.int .i64 (3 * (u : Int))) ∧ w'.cell? ⟨V1.heap.size + 1, 1, none⟩ = some (.int .i64 (4 * (a : Int))) ∧ w'.cell? ⟨w.heap.size + 1, 0, none⟩ = some (.int .i64 (p'.1 : Nat)) ∧ w'.cell? ⟨w.heap.size + 1, 1, none⟩ = some (.int .i64 (p'.2 : Nat))) (by kernel_rfl) (by kernel_rfl) ⟨O3.c0, O3.c1, T3.c0, T3.c1, P3.c0, P3.c1⟩ ?_
      clear O2 T2 R2 P2
      refine wpTakes_cons (v := ?_) _ at0 rfl ?_ ?_ ?_
      rotate_left 1
      · rintro W ⟨x0, x1, x2, x3, x4, x5⟩
        go_simp
        rfl
      · exact fun _ _ _ h => h
      simp only [Act.put, List.setIfInBounds_toArray, List.set_cons_zero, List.set_cons_succ]
      refine wpTakes_cons (v := ?_) _ at1 rfl ?_ ?_ ?_
      rotate_left 1
      · rintro W ⟨x0, x1, x2, x3, x4, x5⟩
        go_simp
        rfl
      · exact fun _ _ _ h => h
      simp only [Act.put, List.setIfInBounds_toArray, List.set_cons_zero, List.set_cons_succ]
      refine wpTakes_cons (v := ?_) _ at2 rfl ?_ ?_ ?_
      rotate_left 1
      · rintro W ⟨x0, x1, x2, x3, x4, x5⟩
        go_simp
        rfl
      · exact fun _ _ _ h => h
      simp only [Act.put, List.setIfInBounds_toArray, List.set_cons_zero, List.set_cons_succ]
      refine wpTakes_nil (wpCalls_cons _ at3 rfl fun K' hK' => ?_)
      go_simp
      go_at_call 8
      refine (HTm.out _).mono ?_
      rintro e w4 ⟨rfl, hb4⟩
      have O4 := O3.on hb4
      have T4 := T3.on hb4
      have R4 := R3.on hb4
      have P4 := P3.on hb4
      refine hK'.out _ _ ⟨O4.c0, O4.c1, T4.c0, T4.c1, P4.c0, P4.c1⟩ ?_
      clear hK' O3 T3 R3 P3 hb4
      refine wpCalls_cons _ at4 rfl fun K' hK' => ?_
      go_simp
      go_at_call 6
      refine (HAd.out _).mono ?_
      rintro e w5 ⟨rfl, hb5⟩
      have O5 := O4.on hb5
      have T5 := T4.on hb5
      have R5 := R4.on hb5
      have P5 := P4.on hb5
      refine hK'.out _ _ ⟨O5.c0, O5.c1, T5.c0, T5.c1, P5.c0, P5.c1⟩ (wpCalls_nil ?_)
      clear hK' O4 T4 R4 P4 hb5 O5 T5 HTm HAd
      simp only [List.drop_succ_cons, List.drop_zero]
      have q0 := P5.c0
      have q1 := P5.c1
      have g0 := P5.f0
      have g1 := P5.f1
      have P6 := P5.set (.int .i64 (pn.1 : Nat)) (.int .i64 (pn.2 : Nat))
      have R6 := R5.other (w.heap.size + 1) (by omega) P5.ge (.int .i64 (pn.1 : Nat)) (.int .i64 (pn.2 : Nat))
      clear P5 R5
      go_wp2
      clear q0 q1 g0 g1
      go_roundw
      case rel => exact ⟨j + 1, pn, by omega, by go_num, HPn.out.symm, R6, P6⟩
      case measure => simp [intOf]; omega
    · obtain rfl : j = k := by omega
      clear HSt
      have r0 := R.c0
      have r1 := R.c1
      have g0 := R.f0
      have g1 := R.f1
      have q0 := P.c0
      have q1 := P.c1
      have R5 := R.set (.int .i64 (p.1 : Nat)) (.int .i64 (p.2 : Nat))
      have HP2 := Lib.hid HP.out
      go_wp2
      have c0 := R5.c0
      have c1 := R5.c1
      rw [HP.out] at c0 c1
      refine bodyPost_ret (v := .agg #[.int .i64 ((Pt.red (Pt.sofar l x s j).1 (Pt.sofar l x s j).2).1 : Nat), .int .i64 ((Pt.red (Pt.sofar l x s j).1 (Pt.sofar l x s j).2).2 : Nat)]) (by rw [HP.out]; simp [results, Tryz.results25, go_sem, c0, c1]) rfl ⟨rfl, R5.old⟩

end Go.Proofs.YtffhphcgmgkgbabGreatDoor
