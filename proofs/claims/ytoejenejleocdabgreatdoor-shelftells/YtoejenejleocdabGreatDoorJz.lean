import Derived.Test.YtoejenejleocdabGreatDoorGh
/- likely of package guess: how likely a sign is by what was seen. -/
namespace Go.Proofs.YtoejenejleocdabGreatDoor
open Go.RowKit
attribute [local irreducible] Bt.pop Bt.popF

theorem Bx2.other {w : World} {B : Nat} {x y : Value} {W : World} (h : Bx2 w B x y W) (X : Nat) (hX : B ≠ X) (hw : w.heap.size ≤ X) (x' y' : Value) : Bx2 w B x y ((W.setCell ⟨X, 0, none⟩ x').setCell ⟨X, 1, none⟩ y') := by
  have far : ∀ o, ((W.setCell ⟨X, 0, none⟩ x').setCell ⟨X, 1, none⟩ y').cell? ⟨B, o, none⟩ = W.cell? ⟨B, o, none⟩ := fun o => by
    rw [World.cell?_setCell_far _ ⟨X, 1, none⟩ ⟨B, o, none⟩ _ (Ne.symm hX), World.cell?_setCell_far _ ⟨X, 0, none⟩ ⟨B, o, none⟩ _ (Ne.symm hX)]
  exact ⟨(far 0).trans h.c0, (far 1).trans h.c1, by simpa using h.f0, by simpa using h.f1, by simpa using h.lt, h.ge, (h.old.setCell (p := ⟨X, 0, none⟩) hw _).setCell (p := ⟨X, 1, none⟩) hw _⟩

namespace Pt
theorem step_ok (o t a : Nat) (p : Nat × Nat) (ho : o ≤ 600) (ht : t ≤ 600) (ha : a ≤ 600) (h1 : p.1 ≤ 221184000000) (h2 : p.2 ≤ 221184000000) :
    t * p.1 < 9223372036854775808 ∧ a * p.2 < 9223372036854775808 ∧ o * (timP (t, a) p).2 + (timP (t, a) p).1 * a < 9223372036854775808 ∧ a * (timP (t, a) p).2 < 9223372036854775808 := by
  have k1 : t * p.1 ≤ 600 * 221184000000 := Nat.mul_le_mul ht h1
  have k2 : a * p.2 ≤ 600 * 221184000000 := Nat.mul_le_mul ha h2
  have r := red_le (t * p.1) (a * p.2)
  have e : timP (t, a) p = red (t * p.1) (a * p.2) := rfl
  rw [e]
  generalize red (t * p.1) (a * p.2) = q at *
  have k3 : o * q.2 ≤ 600 * 132710400000000 := Nat.mul_le_mul ho (by omega)
  have k4 : q.1 * a ≤ 132710400000000 * 600 := Nat.mul_le_mul (by omega) ha
  have k5 : a * q.2 ≤ 600 * 132710400000000 := Nat.mul_le_mul ha (by omega)
  omega
end Pt

/-- the step of a round -/
theorem likely_step {l : List Int} (h : En.Sg l) (hl : l.length ≤ 150) (hm : En.most l < 1024) (x : Nat) (h1 : 1 ≤ x) (h2 : x ≤ En.most l) (s : List Int) (hs : s.length ≤ 2) (j : Nat) (hj : j ≤ s.length) (hu : 0 < Pt.unl l (s.drop (s.length - j))) :
    ∃ p : Nat × Nat, p = Pt.red (Pt.sofar l x s j).1 (Pt.sofar l x s j).2 ∧ 1 ≤ p.2 ∧ p.1 ≤ 221184000000 ∧ p.2 ≤ 221184000000 ∧
      4 * Pt.wt l (s.drop (s.length - j)) x - 3 ≤ 600 ∧ 3 * Pt.unl l (s.drop (s.length - j)) ≤ 600 ∧ 4 * Pt.all l (s.drop (s.length - j)) ≤ 600 ∧ 1 ≤ 4 * Pt.all l (s.drop (s.length - j)) ∧
      Pt.sumP (4 * Pt.wt l (s.drop (s.length - j)) x - 3, 4 * Pt.all l (s.drop (s.length - j))) (Pt.timP (3 * Pt.unl l (s.drop (s.length - j)), 4 * Pt.all l (s.drop (s.length - j))) p) = Pt.red (Pt.sofar l x s (j + 1)).1 (Pt.sofar l x s (j + 1)).2 := by
  have hw := Pt.wt_all h (s.drop (s.length - j)) x h1 h2
  have hul := Pt.unl_le h (s.drop (s.length - j))
  have hal := Pt.all_le h (s.drop (s.length - j))
  have hp := Pt.sofar_pos h (by omega) x s j
  have hle := Pt.sofar_le h x h1 h2 s j
  have hsm := Pt.sofar_small h hl hm x s hs j
  have hr := Pt.red_le (Pt.sofar l x s j).1 (Pt.sofar l x s j).2
  have hrp := Pt.red_pos (Pt.sofar l x s j).1 (Pt.sofar l x s j).2 hp.2
  refine ⟨_, rfl, hrp, by omega, by omega, by omega, by omega, by omega, by omega, ?_⟩
  rw [Pt.stp_red _ _ _ _ (by omega) hp.2, Pt.sofar_succ l x s j hj]
  unfold Pt.stpS
  rw [if_neg (by omega)]

set_option maxRecDepth 100000 in
set_option maxHeartbeats 4000000 in
theorem likely_any (A : Option Addr) (k c x : Nat) (l s : List Int) (w : World) (h : Seen w A l s k) (hg : En.Sg l) (hl : l.length ≤ 150) (hm : En.most l < 1024) (h1 : 1 ≤ x) (h2 : x ≤ En.most l) (hs : s.length ≤ 2) :
    Calls Tryz.prog 49 #[.slice A k c, .int .i64 x, .int .i64 (En.most l : Nat)] w fun e w' => e = .returned (.agg #[.int .i64 ((Pt.red (Pt.lv l x s).1 (Pt.lv l x s).2).1 : Nat), .int .i64 ((Pt.red (Pt.lv l x s).1 (Pt.lv l x s).2).2 : Nat)]) ∧ Below w.heap.size w w' := by
  have HSt : Hid (∀ j, j < k → ∃ b o g a u y, A = some ⟨b, o, none⟩ ∧ b < w.heap.size ∧ w.cell? ⟨b, o + j * 3, none⟩ = some (.slice (some ⟨g, 0, none⟩) (En.most l + 1) (En.most l + 1)) ∧ w.cell? ⟨b, o + j * 3 + 1, none⟩ = some (.int .i64 ((a : Nat) : Int)) ∧ w.cell? ⟨b, o + j * 3 + 2, none⟩ = some (.int .i64 ((u : Nat) : Int)) ∧ g < w.heap.size ∧ w.cell? ⟨g, x, none⟩ = some (.int .i64 ((y : Nat) : Int)) ∧ u ≤ a ∧ y ≤ a ∧ a ≤ 150 ∧ 1 ≤ u ∧
      ∃ p : Nat × Nat, p = Pt.red (Pt.sofar l x s j).1 (Pt.sofar l x s j).2 ∧ 1 ≤ p.2 ∧ p.1 ≤ 221184000000 ∧ p.2 ≤ 221184000000 ∧ Pt.sumP (4 * y - 3, 4 * a) (Pt.timP (3 * u, 4 * a) p) = Pt.red (Pt.sofar l x s (j + 1)).1 (Pt.sofar l x s (j + 1)).2) := Lib.hid fun j hj => by
    obtain ⟨b, o, e, hb, hc⟩ := h.row (by omega)
    obtain ⟨g, q1, q2, q3, q4, q5⟩ := hc j hj
    have hle := h.le
    have hjs : j ≤ s.length := by omega
    obtain ⟨p, e1, e2, e3, e4, _, _, _, _, e9⟩ := likely_step hg hl hm x h1 h2 s hs j hjs q5
    have hal := Pt.all_le hg (s.drop (s.length - j))
    refine ⟨b, o, g, _, _, Pt.wt l (s.drop (s.length - j)) x, e, hb, q1, q2, q3, q4.lt, ?_, Pt.unl_le hg _, Pt.wt_all hg _ x h1 h2, by omega, q5, p, e1, e2, e3, e4, e9⟩
    have := q4.cell (i := x) (by omega)
    unfold Pt.wz at this
    rwa [if_neg (by omega)] at this
  have HEnd : Hid (Pt.sofar l x s k = Pt.lv l x s) := Lib.hid (by
    rcases h.stop with h0 | h0
    · rw [h0]; exact Pt.sofar_all l x s
    · have := h.le; exact Pt.sofar_stop l x s (s.length + 1 - k) k (by omega) h0)
  have HZ : Hid (Pt.red (Pt.sofar l x s 0).1 (Pt.sofar l x s 0).2 = (1, En.most l)) := Lib.hid (by rw [Pt.sofar_zero]; exact Pt.red_unit _)
  have hkl : k ≤ 3 := by have := h.le; omega
  clear h
  rw [← HEnd.out]
  generalize hmm : En.most l = m at *
  have R0 := Bx2.new (Below.refl w.heap.size w) (.int .i64 0) (.int .i64 0) 24
  have P0 := Bx2.new' R0.old (w.heap.size + 1) (by simp) (.int .i64 1) (.int .i64 m) 24
  have R1 := R0.on ((Below.refl _ _).alloc (Nat.le_refl _) (.cells #[.int .i64 1, .int .i64 m] 24))
  clear R0 hmm
  go_enter Tryz.func49, Tryz.ntmps49
  go_wp2
  go_loopw [16] (fun t W => ∃ (j : Nat) (p : Nat × Nat), j ≤ k ∧ t = .int .i64 j ∧ p = Pt.red (Pt.sofar l x s j).1 (Pt.sofar l x s j).2 ∧ Bx2 w w.heap.size (.int .i64 0) (.int .i64 0) W ∧ Bx2 w (w.heap.size + 1) (.int .i64 (p.1 : Nat)) (.int .i64 (p.2 : Nat)) W) (fun t _ => k - (intOf t).toNat)
  case atStart => exact ⟨0, (1, m), Nat.zero_le _, rfl, HZ.out.symm, R1, P0⟩
  case round =>
    obtain ⟨j, p, hj, rfl, hp, R, P⟩ := hrel
    have HP := Lib.hid hp
    clear hp R1 P0 HZ
    generalize wr = V at *
    by_cases hlt : j < k
    · have hlz : (j : Int) < (k : Int) := by omega
      obtain ⟨b, o, g, a, u, y, rfl, hb, d0, d1, d2, hgl, d3, hua, hya, ha, hu, p', hp', t1, t2, t3, t4⟩ := HSt.out j hlt
      have hpp : p' = p := by rw [hp', HP.out]
      subst hpp
      have HT4 := Lib.hid t4
      clear t4 hp' HP HSt HEnd
      have n0 : V.cell? ⟨b, o + j * 3, none⟩ = some (.slice (some ⟨g, 0, none⟩) (m + 1) (m + 1)) := (R.old.cell (p := ⟨b, o + j * 3, none⟩) hb).trans d0
      have n1 : V.cell? ⟨b, o + j * 3 + 1, none⟩ = some (.int .i64 a) := (R.old.cell (p := ⟨b, o + j * 3 + 1, none⟩) hb).trans d1
      have n2 : V.cell? ⟨b, o + j * 3 + 2, none⟩ = some (.int .i64 u) := (R.old.cell (p := ⟨b, o + j * 3 + 2, none⟩) hb).trans d2
      have n3 : V.cell? ⟨g, x, none⟩ = some (.int .i64 y) := (R.old.cell (p := ⟨g, x, none⟩) hgl).trans d3
      have hbV : b < V.heap.size := Nat.lt_of_lt_of_le hb R.old.size
      have hgV : g < V.heap.size := Nat.lt_of_lt_of_le hgl R.old.size
      clear d0 d1 d2 d3 hb hgl
      go_wp2
      clear n0 n1 n2
      have R1 := R.on ((Below.refl _ V).alloc (Nat.le_refl _) (.cells #[.slice (some ⟨g, 0, none⟩) (m + 1) (m + 1), .int .i64 a, .int .i64 u] 107))
      have P1 := P.on ((Below.refl _ V).alloc (Nat.le_refl _) (.cells #[.slice (some ⟨g, 0, none⟩) (m + 1) (m + 1), .int .i64 a, .int .i64 u] 107))
      have m0 : (V.alloc (.cells #[.slice (some ⟨g, 0, none⟩) (m + 1) (m + 1), .int .i64 a, .int .i64 u] 107)).cell? ⟨V.heap.size, 0, none⟩ = some (.slice (some ⟨g, 0, none⟩) (m + 1) (m + 1)) := by simp
      have m1 : (V.alloc (.cells #[.slice (some ⟨g, 0, none⟩) (m + 1) (m + 1), .int .i64 a, .int .i64 u] 107)).cell? ⟨V.heap.size, 1, none⟩ = some (.int .i64 a) := by simp
      have m2 : (V.alloc (.cells #[.slice (some ⟨g, 0, none⟩) (m + 1) (m + 1), .int .i64 a, .int .i64 u] 107)).cell? ⟨V.heap.size, 2, none⟩ = some (.int .i64 u) := by simp
      have m3 : (V.alloc (.cells #[.slice (some ⟨g, 0, none⟩) (m + 1) (m + 1), .int .i64 a, .int .i64 u] 107)).cell? ⟨g, x, none⟩ = some (.int .i64 y) := (World.cell?_alloc_lt _ _ _ hgV).trans n3
      have hsz : (V.alloc (.cells #[.slice (some ⟨g, 0, none⟩) (m + 1) (m + 1), .int .i64 a, .int .i64 u] 107)).heap.size = V.heap.size + 1 := by simp
      have HSz := Lib.hid hsz
      clear n3 hsz R P hbV
      generalize V.alloc (.cells #[.slice (some ⟨g, 0, none⟩) (m + 1) (m + 1), .int .i64 a, .int .i64 u] 107) = V1 at *
      have hVlt : V.heap.size < V1.heap.size := by rw [HSz.out]; omega
      have hgV1 : g < V1.heap.size := by rw [HSz.out]; omega
      have v1 : IntKind.i64.wrap (4 * (y : Int)) = 4 * (y : Int) := w64 _ (by omega) (by omega)
      have v2 : IntKind.i64.wrap (4 * (y : Int) - 3) = 4 * (y : Int) - 3 := w64 _ (by omega) (by omega)
      have v3 : IntKind.i64.wrap (4 * (a : Int)) = 4 * (a : Int) := w64 _ (by omega) (by omega)
      have hxm : (x : Int) < (m : Int) + 1 := by omega
      have hxm2 : x < m + 1 := by omega
      go_region
      go_wp2
      clear m0 m1 m2 m3 v1 v2 v3
      have HTm : Hid (∀ W, Calls Tryz.prog 16 #[.agg #[.int .i64 (3 * (u : Int)), .int .i64 (4 * (a : Int))], .agg #[.int .i64 (p'.1 : Nat), .int .i64 (p'.2 : Nat)]] W fun e w' => e = .returned (.agg #[.int .i64 ((Pt.timP (3 * u, 4 * a) p').1 : Nat), .int .i64 ((Pt.timP (3 * u, 4 * a) p').2 : Nat)]) ∧ Below W.heap.size W w') := Lib.hid fun W => by
        obtain ⟨z1, z2, _, _⟩ := Pt.step_ok (4 * y - 3) (3 * u) (4 * a) p' (by omega) (by omega) (by omega) t2 t3
        have := times_any (3 * u) (4 * a) p'.1 p'.2 W (by omega) t1 z1 z2
        rwa [show ((3 * u : Nat) : Int) = 3 * (u : Int) from by omega, show ((4 * a : Nat) : Int) = 4 * (a : Int) from by omega] at this
      have HAd : Hid (∀ W, Calls Tryz.prog 14 #[.agg #[.int .i64 (max 0 (4 * (y : Int) - 3)), .int .i64 (4 * (a : Int))], .agg #[.int .i64 ((Pt.timP (3 * u, 4 * a) p').1 : Nat), .int .i64 ((Pt.timP (3 * u, 4 * a) p').2 : Nat)]] W fun e w' => e = .returned (.agg #[.int .i64 ((Pt.red (Pt.sofar l x s (j + 1)).1 (Pt.sofar l x s (j + 1)).2).1 : Nat), .int .i64 ((Pt.red (Pt.sofar l x s (j + 1)).1 (Pt.sofar l x s (j + 1)).2).2 : Nat)]) ∧ Below W.heap.size W w') := Lib.hid fun W => by
        obtain ⟨_, _, z3, z4⟩ := Pt.step_ok (4 * y - 3) (3 * u) (4 * a) p' (by omega) (by omega) (by omega) t2 t3
        have hpos : 1 ≤ (Pt.timP (3 * u, 4 * a) p').2 := Pt.red_pos _ _ (Nat.mul_pos (by show 0 < 4 * a; omega) t1)
        have := add_any (4 * y - 3) (4 * a) (Pt.timP (3 * u, 4 * a) p').1 (Pt.timP (3 * u, 4 * a) p').2 W (by omega) hpos z3 z4
        rw [show ((Pt.timP (3 * u, 4 * a) p').1, (Pt.timP (3 * u, 4 * a) p').2) = Pt.timP (3 * u, 4 * a) p' from rfl, HT4.out] at this
        rwa [show ((4 * y - 3 : Nat) : Int) = max 0 (4 * (y : Int) - 3) from by omega, show ((4 * a : Nat) : Int) = 4 * (a : Int) from by omega] at this
      clear HT4
      generalize Pt.timP (3 * u, 4 * a) p' = tq at *
      generalize hpn : Pt.red (Pt.sofar l x s (j + 1)).1 (Pt.sofar l x s (j + 1)).2 = pn at *
      have HPn := Lib.hid hpn
      clear hpn
      have O1 := Bx2.new R1.old (.int .i64 (max 0 (4 * (y : Int) - 3))) (.int .i64 (4 * (a : Int))) 24
      have hbO : Below V1.heap.size V1 (V1.alloc (.cells #[.int .i64 (max 0 (4 * (y : Int) - 3)), .int .i64 (4 * (a : Int))] 24)) := (Below.refl _ _).alloc (Nat.le_refl _) _
      have T1 := Bx2.new' O1.old (V1.heap.size + 1) (by simp) (.int .i64 (3 * (u : Int))) (.int .i64 (4 * (a : Int))) 24
      have hbT := (Below.refl (V1.alloc (.cells #[.int .i64 (max 0 (4 * (y : Int) - 3)), .int .i64 (4 * (a : Int))] 24)).heap.size (V1.alloc (.cells #[.int .i64 (max 0 (4 * (y : Int) - 3)), .int .i64 (4 * (a : Int))] 24))).alloc (Nat.le_refl _) (.cells #[.int .i64 (3 * (u : Int)), .int .i64 (4 * (a : Int))] 24)
      have O2 := (O1.on hbT).drew
      have T2 := T1.drew
      have R2 := ((R1.on hbO).on hbT).drew
      have P2 := ((P1.on hbO).on hbT).drew
      clear O1 T1 R1 P1 hbO hbT
      generalize ((V1.alloc (.cells #[.int .i64 (max 0 (4 * (y : Int) - 3)), .int .i64 (4 * (a : Int))] 24)).alloc (.cells #[.int .i64 (3 * (u : Int)), .int .i64 (4 * (a : Int))] 24)).drew = V2 at *
      have O3 := O2.drew
      have T3 := T2.drew
      have R3 := R2.drew
      have P3 := P2.drew
      refine wp_region_takes 5 [0, 1, 2] [3, 4] (fun w' => w'.cell? ⟨V1.heap.size, 0, none⟩ = some (.int .i64 (max 0 (4 * (y : Int) - 3))) ∧ w'.cell? ⟨V1.heap.size, 1, none⟩ = some (.int .i64 (4 * (a : Int))) ∧ w'.cell? ⟨V1.heap.size + 1, 0, none⟩ = some (.int .i64 (3 * (u : Int))) ∧ w'.cell? ⟨V1.heap.size + 1, 1, none⟩ = some (.int .i64 (4 * (a : Int))) ∧ w'.cell? ⟨w.heap.size + 1, 0, none⟩ = some (.int .i64 (p'.1 : Nat)) ∧ w'.cell? ⟨w.heap.size + 1, 1, none⟩ = some (.int .i64 (p'.2 : Nat))) (by kernel_rfl) (by kernel_rfl) ⟨O3.c0, O3.c1, T3.c0, T3.c1, P3.c0, P3.c1⟩ ?_
      clear O2 T2 R2 P2
      refine wpTakes_cons (v := ?_) _ at0 rfl ?_ ?_ ?_
      rotate_left 1
      · rintro W ⟨x0, x1, x2, x3, x4, x5⟩
        go_simp
        rfl
      · exact fun _ _ _ h => h
      simp only [Act.put, List.setIfInBounds_toArray, List.set_cons_zero, List.set_cons_succ]
      refine wpTakes_cons (v := ?_) _ at1 rfl ?_ ?_ ?_
      rotate_left 1
      · rintro W ⟨x0, x1, x2, x3, x4, x5⟩
        go_simp
        rfl
      · exact fun _ _ _ h => h
      simp only [Act.put, List.setIfInBounds_toArray, List.set_cons_zero, List.set_cons_succ]
      refine wpTakes_cons (v := ?_) _ at2 rfl ?_ ?_ ?_
      rotate_left 1
      · rintro W ⟨x0, x1, x2, x3, x4, x5⟩
        go_simp
        rfl
      · exact fun _ _ _ h => h
      simp only [Act.put, List.setIfInBounds_toArray, List.set_cons_zero, List.set_cons_succ]
      refine wpTakes_nil (wpCalls_cons _ at3 rfl fun K' hK' => ?_)
      go_simp
      go_at_call 16
      refine (HTm.out _).mono ?_
      rintro e w4 ⟨rfl, hb4⟩
      have O4 := O3.on hb4
      have T4 := T3.on hb4
      have R4 := R3.on hb4
      have P4 := P3.on hb4
      refine hK'.out _ _ ⟨O4.c0, O4.c1, T4.c0, T4.c1, P4.c0, P4.c1⟩ ?_
      clear hK' O3 T3 R3 P3 hb4
      refine wpCalls_cons _ at4 rfl fun K' hK' => ?_
      go_simp
      go_at_call 14
      refine (HAd.out _).mono ?_
      rintro e w5 ⟨rfl, hb5⟩
      have O5 := O4.on hb5
      have T5 := T4.on hb5
      have R5 := R4.on hb5
      have P5 := P4.on hb5
      refine hK'.out _ _ ⟨O5.c0, O5.c1, T5.c0, T5.c1, P5.c0, P5.c1⟩ (wpCalls_nil ?_)
      clear hK' O4 T4 R4 P4 hb5 O5 T5 HTm HAd
      simp only [List.drop_succ_cons, List.drop_zero]
      have q0 := P5.c0
      have q1 := P5.c1
      have g0 := P5.f0
      have g1 := P5.f1
      have P6 := P5.set (.int .i64 (pn.1 : Nat)) (.int .i64 (pn.2 : Nat))
      have R6 := R5.other (w.heap.size + 1) (by omega) P5.ge (.int .i64 (pn.1 : Nat)) (.int .i64 (pn.2 : Nat))
      clear P5 R5
      go_wp2
      clear q0 q1 g0 g1
      go_roundw
      case rel => exact ⟨j + 1, pn, by omega, by go_num, HPn.out.symm, R6, P6⟩
      case measure => simp [intOf]; omega
    · obtain rfl : j = k := by omega
      clear HSt
      have r0 := R.c0
      have r1 := R.c1
      have g0 := R.f0
      have g1 := R.f1
      have q0 := P.c0
      have q1 := P.c1
      have R5 := R.set (.int .i64 (p.1 : Nat)) (.int .i64 (p.2 : Nat))
      have HP2 := Lib.hid HP.out
      go_wp2
      have c0 := R5.c0
      have c1 := R5.c1
      rw [HP.out] at c0 c1
      refine bodyPost_ret (v := .agg #[.int .i64 ((Pt.red (Pt.sofar l x s j).1 (Pt.sofar l x s j).2).1 : Nat), .int .i64 ((Pt.red (Pt.sofar l x s j).1 (Pt.sofar l x s j).2).2 : Nat)]) (by rw [HP.out]; simp [results, Tryz.results49, go_sem, c0, c1]) rfl ⟨rfl, R5.old⟩

end Go.Proofs.YtoejenejleocdabGreatDoor

/- Likely and All of package guess, of an index that Make has made. -/
namespace Go.Proofs.YtoejenejleocdabGreatDoor
open Go.RowKit
attribute [local irreducible] Bt.pop Bt.popF

namespace Pt
/-- how likely a sign is behind others: 0 of 1, if it is none -/
def lik (l b : List Int) (x : Int) : Nat × Nat := if 1 ≤ x ∧ x ≤ (En.most l : Int) then red (lv l x.toNat (last2 b)).1 (lv l x.toNat (last2 b)).2 else (0, 1)
theorem lik_no {l b : List Int} {x : Int} (h : x ≤ 0 ∨ (En.most l : Int) < x) : lik l b x = (0, 1) := by unfold lik; rw [if_neg (by omega)]
theorem lik_yes (l b : List Int) (x : Nat) (h1 : 1 ≤ x) (h2 : x ≤ En.most l) : lik l b x = red (lv l x (last2 b)).1 (lv l x (last2 b)).2 := by unfold lik; rw [if_pos ⟨by omega, by omega⟩, Int.toNat_natCast]
end Pt

section
variable {w0 : World} {B : Nat} {E L S : Option Addr} {cE cL cS N M : Nat} {l : List Int} {W : World}
theorem CB.seenLast (h : CB w0 B E L S cE cL cS N M l W) (A : Option Addr) (c n : Nat) (s : List Int) (hn : n = s.length) (hr : IRow W W.heap.size A s) (hcap : n ≤ c) (hs : n ≤ 17592186044416) :
    Calls Tryz.prog 50 #[.agg #[.slice E N cE, .int .i64 N, .int .i64 10, .slice L 10 cL, .slice S M cS], .slice A n c] W (SeenL W l (Pt.last2 s)) := by
  subst hn
  exact seenBehindLast_any E L S A cE cL cS N M c l s W h.cmb h.len h.num h.capE h.capL hr hcap hs
end

set_option maxRecDepth 100000 in
set_option maxHeartbeats 2000000 in
theorem likelyF_no (E L S A : Option Addr) (cE cL cS N m c n : Nat) (x : Int) (w : World) (hg : NG w) (hm : m < 1024) (hx : x ≤ 0 ∨ (m : Int) < x) :
    Calls Tryz.prog 20 #[.agg #[.slice E N cE, .int .i64 N, .int .i64 10, .slice L 10 cL, .slice S (m + 2) cS], .slice A n c, .int .i64 x] w fun e w' => e = .returned (.agg #[.int .i64 0, .int .i64 1]) ∧ Below w.heap.size w w' := by
  have n0 := hg.n0
  have n1 := hg.n1
  have nl := hg.lt
  have HGr := Lib.hid (fun W => greatest_any E L S N cE N 10 10 cL m cS W (by omega))
  have hb1 := (Below.refl _ w).alloc (Nat.le_refl _) (.cells #[.slice E N cE, .int .i64 N, .int .i64 10, .slice L 10 cL, .slice S (m + 2) cS] 33)
  have R0 := Bx2.new' hb1 (w.heap.size + 1) (by simp) (.int .i64 0) (.int .i64 0) 24
  have G1 := (hg.on hb1).on ((Below.refl _ _).alloc (Nat.le_refl _) (.cells #[.int .i64 0, .int .i64 0] 24))
  clear hb1 hg n0 n1 nl
  by_cases h0 : x ≤ 0
  · have n0 := G1.n0
    have n1 := G1.n1
    clear G1 R0 HGr hx
    go_enter Tryz.func20, Tryz.ntmps20
    go_wp2
    refine bodyPost_ret (v := .agg #[.int .i64 0, .int .i64 1]) (by simp [results, Tryz.results20, go_sem]) rfl ⟨rfl, ((Below.refl _ w).alloc (Nat.le_refl _) _).alloc (by simp) _⟩
  · have hx2 : (m : Int) < x := by omega
    have hx0 : ¬ x ≤ 0 := h0
    clear hx h0
    go_enter Tryz.func20, Tryz.ntmps20
    go_wp2_with fail
    with_reducible refine (HGr.out _).mono ?_
    rintro e w1 ⟨rfl, hb1⟩
    have R1 := R0.on hb1
    have G2 := G1.on hb1
    clear HGr R0 G1 hb1
    have n0 := G2.n0
    have n1 := G2.n1
    have r0 := R1.c0
    have r1 := R1.c1
    have f0 := R1.f0
    have f1 := R1.f1
    have R2 := R1.set (.int .i64 0) (.int .i64 1)
    clear G2 R1
    go_wp2
    have c0 := R2.c0
    have c1 := R2.c1
    refine bodyPost_ret (v := .agg #[.int .i64 0, .int .i64 1]) (by simp [results, Tryz.results20, go_sem, c0, c1]) rfl ⟨rfl, R2.old⟩

set_option maxRecDepth 100000 in
set_option maxHeartbeats 2000000 in
theorem likelyF_yes (E L S A : Option Addr) (cE cL cS N M c n x : Nat) (l s : List Int) (w : World) (h : Cmb w E L S l) (hN : N = l.length) (hM : M = En.most l + 2) (hE : N ≤ cE) (hL : 10 ≤ cL) (hr : IRow w w.heap.size A s) (hn : n = s.length) (hcap : n ≤ c) (hs : n ≤ 17592186044416) (hl : l.length ≤ 150) (h1 : 1 ≤ x) (h2 : x ≤ En.most l) :
    Calls Tryz.prog 20 #[.agg #[.slice E N cE, .int .i64 N, .int .i64 10, .slice L 10 cL, .slice S M cS], .slice A n c, .int .i64 x] w fun e w' => e = .returned (.agg #[.int .i64 ((Pt.lik l s x).1 : Nat), .int .i64 ((Pt.lik l s x).2 : Nat)]) ∧ Below w.heap.size w w' := by
  have hsg := h.sg
  have hfit := h.fit
  have hb1 := (Below.refl _ w).alloc (Nat.le_refl _) (.cells #[.slice E N cE, .int .i64 N, .int .i64 10, .slice L 10 cL, .slice S M cS] 33)
  have J0 : CB w w.heap.size E L S cE cL cS N M l _ := CB.start h hN hM hE hL (Below.refl _ _) 33
  have hb2 := (Below.refl _ (w.alloc (.cells #[.slice E N cE, .int .i64 N, .int .i64 10, .slice L 10 cL, .slice S M cS] 33))).alloc (Nat.le_refl _) (.cells #[.int .i64 0, .int .i64 0] 24)
  have J := J0.on hb2
  have hrow := (hr.on hb1).on hb2
  have R0 := Bx2.new' hb1 (w.heap.size + 1) (by simp) (.int .i64 0) (.int .i64 0) 24
  have HGr : Hid (∀ W, CB w w.heap.size E L S cE cL cS N M l W → Calls Tryz.prog 48 #[.agg #[.slice E N cE, .int .i64 N, .int .i64 10, .slice L 10 cL, .slice S M cS]] W fun e w' => e = .returned (.int .i64 (En.most l : Nat)) ∧ Below W.heap.size W w') := Lib.hid fun W hW => hW.greatest
  have HSn : Hid (∀ W, CB w w.heap.size E L S cE cL cS N M l W → IRow W W.heap.size A s → Calls Tryz.prog 50 #[.agg #[.slice E N cE, .int .i64 N, .int .i64 10, .slice L 10 cL, .slice S M cS], .slice A n c] W (SeenL W l (Pt.last2 s))) := Lib.hid fun W hW hA => hW.seenLast A c n s hn hA hcap hs
  have HLk : Hid (∀ A' k' c' W, Seen W A' l (Pt.last2 s) k' → Calls Tryz.prog 49 #[.slice A' k' c', .int .i64 x, .int .i64 (En.most l : Nat)] W fun e w' => e = .returned (.agg #[.int .i64 ((Pt.lik l s x).1 : Nat), .int .i64 ((Pt.lik l s x).2 : Nat)]) ∧ Below W.heap.size W w') := Lib.hid fun A' k' c' W hW => by
    rw [Pt.lik_yes l s x h1 h2]
    exact likely_any A' k' c' x l (Pt.last2 s) W hW hsg hl hfit h1 h2 (by rw [Pt.last2_len]; omega)
  have hx0 : ¬ ((x : Int) ≤ 0) := by omega
  have hx1 : ¬ ((En.most l : Int) < (x : Int)) := by omega
  clear h hN hM hr hb1 J0 hb2 hsg hl hfit hn
  generalize Pt.lik l s x = q at *
  generalize En.most l = m at *
  go_enter Tryz.func20, Tryz.ntmps20
  go_wp2_with fail
  with_reducible refine (HGr.out _ J).mono ?_
  rintro e w1 ⟨rfl, hb1⟩
  have J1 := J.on hb1
  have R1 := R0.on hb1
  have hrow1 := hrow.on hb1
  clear J R0 hrow hb1
  go_wp2_with fail
  have J2 := J1.drew
  have R2 := R1.drew
  have hrow2 : IRow w1.drew w1.drew.heap.size A s := hrow1.on (Below.refl _ _).drew
  refine wp_region_takes 7 [0, 1, 3, 4] [2, 5, 6] (fun w' => w'.cell? ⟨w.heap.size, 0, none⟩ = some (.slice E N cE) ∧ w'.cell? ⟨w.heap.size, 1, none⟩ = some (.int .i64 N) ∧ w'.cell? ⟨w.heap.size, 2, none⟩ = some (.int .i64 10) ∧ w'.cell? ⟨w.heap.size, 3, none⟩ = some (.slice L 10 cL) ∧ w'.cell? ⟨w.heap.size, 4, none⟩ = some (.slice S M cS)) (by kernel_rfl) (by kernel_rfl) ⟨J2.c0, J2.c1, J2.c2, J2.c3, J2.c4⟩ ?_
  clear J1 R1 hrow1
  refine wpTakes_cons (v := ?_) _ at0 rfl ?_ ?_ ?_
  rotate_left 1
  · rintro W ⟨x0, x1, x2, x3, x4⟩
    go_simp
    rfl
  · exact fun _ _ _ h => h
  simp only [Act.put, List.setIfInBounds_toArray, List.set_cons_zero, List.set_cons_succ]
  refine wpTakes_cons (v := ?_) _ at1 rfl ?_ ?_ ?_
  rotate_left 1
  · rintro W ⟨x0, x1, x2, x3, x4⟩
    go_simp
    rfl
  · exact fun _ _ _ h => h
  simp only [Act.put, List.setIfInBounds_toArray, List.set_cons_zero, List.set_cons_succ]
  refine wpTakes_cons (v := ?_) _ at3 rfl ?_ ?_ ?_
  rotate_left 1
  · rintro W ⟨x0, x1, x2, x3, x4⟩
    go_simp
    rfl
  · exact fun _ _ _ h => h
  simp only [Act.put, List.setIfInBounds_toArray, List.set_cons_zero, List.set_cons_succ]
  refine wpTakes_cons (v := ?_) _ at4 rfl ?_ ?_ ?_
  rotate_left 1
  · rintro W ⟨x0, x1, x2, x3, x4⟩
    go_simp
    rfl
  · exact fun _ _ _ h => h
  simp only [Act.put, List.setIfInBounds_toArray, List.set_cons_zero, List.set_cons_succ]
  refine wpTakes_nil (wpCalls_cons _ at2 rfl fun K' hK' => ?_)
  go_simp
  go_at_call 50
  refine (HSn.out _ J2 hrow2).mono ?_
  rintro e w3 ⟨A3, k3, c3, rfl, S3, hb3⟩
  have J3 := J2.on hb3
  have R3 := R2.on hb3
  refine hK'.out _ _ ⟨J3.c0, J3.c1, J3.c2, J3.c3, J3.c4⟩ ?_
  clear hK' J2 R2 hrow2 hb3 HSn
  refine wpCalls_cons _ at5 rfl fun K' hK' => ?_
  go_simp
  go_at_call 48
  refine (HGr.out _ J3).mono ?_
  rintro e w4 ⟨rfl, hb4⟩
  have J4 := J3.on hb4
  have R4 := R3.on hb4
  have S4 := S3.on hb4
  refine hK'.out _ _ ⟨J4.c0, J4.c1, J4.c2, J4.c3, J4.c4⟩ ?_
  clear hK' J3 R3 S3 hb4 HGr
  refine wpCalls_cons _ at6 rfl fun K' hK' => ?_
  go_simp
  go_at_call 49
  refine (HLk.out _ _ _ _ S4).mono ?_
  rintro e w5 ⟨rfl, hb5⟩
  have J5 := J4.on hb5
  have R5 := R4.on hb5
  refine hK'.out _ _ ⟨J5.c0, J5.c1, J5.c2, J5.c3, J5.c4⟩ (wpCalls_nil ?_)
  clear hK' J4 R4 S4 hb5 HLk J5
  simp only [List.drop_succ_cons, List.drop_zero]
  have r0 := R5.c0
  have r1 := R5.c1
  have f0 := R5.f0
  have f1 := R5.f1
  have R6 := R5.set (.int .i64 (q.1 : Nat)) (.int .i64 (q.2 : Nat))
  clear R5
  go_wp2
  have c0 := R6.c0
  have c1 := R6.c1
  refine bodyPost_ret (v := .agg #[.int .i64 (q.1 : Nat), .int .i64 (q.2 : Nat)]) (by simp [results, Tryz.results20, go_sem, c0, c1]) rfl ⟨rfl, R6.old⟩

/-- Likely of whatever number -/
theorem likelyF_any (E L S A : Option Addr) (cE cL cS N M c n : Nat) (x : Int) (l s : List Int) (w : World) (hg : NG w) (h : Cmb w E L S l) (hN : N = l.length) (hM : M = En.most l + 2) (hE : N ≤ cE) (hL : 10 ≤ cL) (hr : IRow w w.heap.size A s) (hn : n = s.length) (hcap : n ≤ c) (hs : n ≤ 17592186044416) (hl : l.length ≤ 150) :
    Calls Tryz.prog 20 #[.agg #[.slice E N cE, .int .i64 N, .int .i64 10, .slice L 10 cL, .slice S M cS], .slice A n c, .int .i64 x] w fun e w' => e = .returned (.agg #[.int .i64 ((Pt.lik l s x).1 : Nat), .int .i64 ((Pt.lik l s x).2 : Nat)]) ∧ Below w.heap.size w w' := by
  by_cases hx : x ≤ 0 ∨ (En.most l : Int) < x
  · rw [Pt.lik_no hx, hM]
    exact likelyF_no E L S A cE cL cS N (En.most l) c n x w hg h.fit hx
  · obtain ⟨y, rfl⟩ := Int.eq_ofNat_of_zero_le (show 0 ≤ x by omega)
    exact likelyF_yes E L S A cE cL cS N M c n y l s w h hN hM hE hL hr hn hcap hs hl (by omega) (by omega)

end Go.Proofs.YtoejenejleocdabGreatDoor

/- 'guesses' (of one list guess answers as told); Make of whatever list; the greatest of a list, number by number. -/
namespace Go.Proofs.YtoejenejleocdabGreatDoor
open Go.RowKit
attribute [local irreducible] Bt.pop Bt.popF

end Go.Proofs.YtoejenejleocdabGreatDoor

/- All of package guess: how likely each sign is. -/
namespace Go.Proofs.YtoejenejleocdabGreatDoor
open Go.RowKit
attribute [local irreducible] Bt.pop Bt.popF

theorem infoPart : (Tryz.prog.info? 24).map (fun i => (i.zero, i.size, i.bytes)) = some (some (.agg #[.int .i64 0, .int .i64 0]), 2, 16) := by kernel_rfl
theorem run_make_part (n : Nat) (h : n ≤ 1024) (W : World) : (Instr.makeSlice 38 (.int .i64 (n : Int)) (.int .i64 (n : Int))).run Tryz.prog W = .ok (.slice (some ⟨W.heap.size, 0, none⟩) n n) (W.alloc (.cells (madeCells #[.int .i64 0, .int .i64 0] (n * 2)) 24)) := by
  obtain ⟨i, hi, hzz⟩ := Option.map_eq_some_iff.1 infoPart
  simp only [Prod.mk.injEq] at hzz
  obtain ⟨hz, hs, hb⟩ := hzz
  have hr := run_make (P := Tryz.prog) W 38 24 i _ Tryz.underlying38 hi hz .i64 .i64 n n (by omega) (Int.le_refl _) (by rw [hb]; omega) (by omega)
  rw [hs, show (Value.agg #[.int .i64 0, .int .i64 0]).cells = #[.int .i64 0, .int .i64 0] from rfl] at hr
  simpa using hr
/-- the cells of the first k parts, then noughts -/
def ptF (q : Nat → Nat × Nat) (k : Nat) : Nat → Value := fun c => if c / 2 < k then (if c % 2 = 0 then .int .i64 ((q (c / 2)).1 : Nat) else .int .i64 ((q (c / 2)).2 : Nat)) else .int .i64 0
theorem parts_made (W : World) (n : Nat) (q : Nat → Nat × Nat) : (W.alloc (.cells (madeCells #[.int .i64 0, .int .i64 0] (n * 2)) 24)).rowIs W.heap.size 24 (n * 2) (ptF q 0) := by
  have h := World.rowIs_alloc W (madeCells #[.int .i64 0, .int .i64 0] (n * 2)) 24 (ptF q 0) (fun i hi => by
    rw [size_madeCells] at hi
    have h2 : i % 2 = 0 ∨ i % 2 = 1 := by omega
    rcases h2 with h | h <;> simp [madeCells, hi, h, ptF])
  rwa [size_madeCells] at h
theorem parts_set {W : World} {g n : Nat} {q : Nat → Nat × Nat} {k : Nat} (h : W.rowIs g 24 (n * 2) (ptF q k)) : ((W.setCell ⟨g, k * 2, none⟩ (.int .i64 ((q k).1 : Nat))).setCell ⟨g, k * 2 + 1, none⟩ (.int .i64 ((q k).2 : Nat))).rowIs g 24 (n * 2) (ptF q (k + 1)) := by
  refine ((h.set _ _).set _ _).congr (fun i hi => ?_)
  unfold ptF
  by_cases h1 : i = k * 2 + 1
  · subst h1
    rw [if_pos rfl, if_pos (by omega), if_neg (by omega), show (k * 2 + 1) / 2 = k from by omega]
  · rw [if_neg h1]
    by_cases h2 : i = k * 2
    · subst h2
      rw [if_pos rfl, if_pos (by omega), if_pos (by omega), show k * 2 / 2 = k from by omega]
    · rw [if_neg h2]
      by_cases h3 : i / 2 < k
      · have h4 : i / 2 < k + 1 := by omega
        simp only [h3, h4, if_true]
      · have h4 : ¬ i / 2 < k + 1 := by omega
        simp only [h3, h4, if_false]
theorem parts_at {W : World} {g n : Nat} {q : Nat → Nat × Nat} {k j : Nat} (h : W.rowIs g 24 (n * 2) (ptF q k)) (hj : j < n) (hk : j < k) : W.cell? ⟨g, j * 2, none⟩ = some (.int .i64 ((q j).1 : Nat)) ∧ W.cell? ⟨g, j * 2 + 1, none⟩ = some (.int .i64 ((q j).2 : Nat)) := by
  refine ⟨(h.cell (by omega)).trans ?_, (h.cell (by omega)).trans ?_⟩
  · unfold ptF; rw [show j * 2 / 2 = j from by omega, if_pos hk, if_pos (by omega)]
  · unfold ptF; rw [show (j * 2 + 1) / 2 = j from by omega, if_pos hk, if_neg (by omega)]
theorem parts_some {W : World} {g n : Nat} {q : Nat → Nat × Nat} {k j : Nat} (h : W.rowIs g 24 (n * 2) (ptF q k)) (hj : j < n) : ∃ v u, W.cell? ⟨g, j * 2, none⟩ = some v ∧ W.cell? ⟨g, j * 2 + 1, none⟩ = some u := ⟨_, _, h.cell (by omega), h.cell (by omega)⟩

/-- what All hands back -/
def AllIs (w : World) (l b : List Int) (e : Ending) (w' : World) : Prop :=
  ∃ g, e = .returned (.slice (some ⟨g, 0, none⟩) (En.most l) (En.most l)) ∧ w'.rowIs g 24 (En.most l * 2) (ptF (fun i => Pt.lik l b ((i + 1 : Nat) : Int)) (En.most l)) ∧ w.heap.size ≤ g ∧ Below w.heap.size w w'

set_option maxRecDepth 100000 in
set_option maxHeartbeats 2000000 in
theorem all_any (E L S A : Option Addr) (cE cL cS N M c n : Nat) (l s : List Int) (w : World) (h : Cmb w E L S l) (hN : N = l.length) (hM : M = En.most l + 2) (hE : N ≤ cE) (hL : 10 ≤ cL) (hr : IRow w w.heap.size A s) (hn : n = s.length) (hcap : n ≤ c) (hs : n ≤ 17592186044416) (hl : l.length ≤ 150) :
    Calls Tryz.prog 22 #[.agg #[.slice E N cE, .int .i64 N, .int .i64 10, .slice L 10 cL, .slice S M cS], .slice A n c] w (AllIs w l s) := by
  have hsg := h.sg
  have hfit := h.fit
  have hb1 := (Below.refl _ w).alloc (Nat.le_refl _) (.cells #[.slice E N cE, .int .i64 N, .int .i64 10, .slice L 10 cL, .slice S M cS] 33)
  have J : CB w w.heap.size E L S cE cL cS N M l _ := CB.start h hN hM hE hL (Below.refl _ _) 33
  have hrow := hr.on hb1
  have HGr : Hid (∀ W, CB w w.heap.size E L S cE cL cS N M l W → Calls Tryz.prog 48 #[.agg #[.slice E N cE, .int .i64 N, .int .i64 10, .slice L 10 cL, .slice S M cS]] W fun e w' => e = .returned (.int .i64 (En.most l : Nat)) ∧ Below W.heap.size W w') := Lib.hid fun W hW => hW.greatest
  have HSn := Lib.hid (J.seenLast A c n s hn hrow hcap hs)
  have HLk : Hid (∀ A' k' c' i W, i < En.most l → Seen W A' l (Pt.last2 s) k' → Calls Tryz.prog 49 #[.slice A' k' c', .int .i64 ((i : Int) + 1), .int .i64 (En.most l : Nat)] W fun e w' => e = .returned (.agg #[.int .i64 ((Pt.lik l s ((i + 1 : Nat) : Int)).1 : Nat), .int .i64 ((Pt.lik l s ((i + 1 : Nat) : Int)).2 : Nat)]) ∧ Below W.heap.size W w') := Lib.hid fun A' k' c' i W hi hW => by
    rw [Pt.lik_yes l s (i + 1) (by omega) (by omega)]
    have := likely_any A' k' c' (i + 1) l (Pt.last2 s) W hW hsg hl hfit (by omega) (by omega) (by rw [Pt.last2_len]; omega)
    rwa [show ((i + 1 : Nat) : Int) = (i : Int) + 1 from by omega] at this
  have hmk := run_make_part (En.most l) (by omega)
  have HPm : Hid (∀ W : World, (W.alloc (.cells (madeCells #[.int .i64 0, .int .i64 0] (En.most l * 2)) 24)).rowIs W.heap.size 24 (En.most l * 2) (ptF (fun i => Pt.lik l s ((i + 1 : Nat) : Int)) 0)) := Lib.hid fun W => parts_made W (En.most l) _
  unfold AllIs
  generalize hq : (fun i : Nat => Pt.lik l s ((i + 1 : Nat) : Int)) = q at *
  have HQ : Hid (∀ i, Pt.lik l s ((i + 1 : Nat) : Int) = q i) := Lib.hid fun i => by rw [← hq]
  clear h hN hM hr hb1 hsg hl hn hq
  generalize En.most l = m at *
  go_enter Tryz.func22, Tryz.ntmps22
  go_wp2_with fail
  with_reducible refine HSn.out.mono ?_
  rintro e w1 ⟨A1, k1, c1, rfl, S1, hb1⟩
  have J1 := J.on hb1
  clear HSn J hrow hb1
  have c0 := J1.c0
  have c1' := J1.c1
  have c2 := J1.c2
  have c3 := J1.c3
  have c4 := J1.c4
  go_wp2_with fail
  with_reducible refine (HGr.out _ J1).mono ?_
  rintro e w2 ⟨rfl, hb2⟩
  have J2 := J1.on hb2
  have S2 := S1.on hb2
  clear HGr J1 S1 hb2 c0 c1' c2 c3 c4
  have hP0 := HPm.out w2
  have hbP := (Below.refl _ w2).alloc (Nat.le_refl _) (.cells (madeCells #[.int .i64 0, .int .i64 0] (m * 2)) 24)
  have HS2 := Lib.hid S2
  have hold := J2.old
  clear J2 S2 HPm
  go_wp2
  go_loopw [16] (fun t W => ∃ i : Nat, i ≤ m ∧ t = .int .i64 i ∧ W.rowIs w2.heap.size 24 (m * 2) (ptF q i) ∧ Below w2.heap.size w2 W) (fun t _ => m - (intOf t).toNat)
  case atStart => exact ⟨0, Nat.zero_le _, rfl, hP0, hbP⟩
  case round =>
    obtain ⟨i, hi, rfl, hP, hb⟩ := hrel
    clear hP0 hbP hmk
    by_cases hlt : i < m
    · have hlz : (i : Int) < (m : Int) := by omega
      have HLi := Lib.hid (HLk.out A1 k1 c1 i wr hlt (HS2.out.on hb))
      rw [HQ.out] at HLi
      clear HLk
      go_wp2_with fail
      with_reducible refine HLi.out.mono ?_
      rintro e w4 ⟨rfl, hb4⟩
      have hP4 := hP.of_block (hb4.block _ hP.lt)
      have hB4 := hb.trans (hb4.mono hb.size)
      obtain ⟨v0, v1, d0, d1⟩ := parts_some hP4 hlt
      have f0 := hP4.frozen (i * 2)
      have f1 := hP4.frozen (i * 2 + 1)
      have hP5 := parts_set hP4
      have hB5 := (hB4.setCell (p := ⟨w2.heap.size, i * 2, none⟩) (Nat.le_refl _) (.int .i64 ((q i).1 : Nat))).setCell (p := ⟨w2.heap.size, i * 2 + 1, none⟩) (Nat.le_refl _) (.int .i64 ((q i).2 : Nat))
      clear hP4 hB4 hP hb hb4 HLi
      go_wp2
      clear d0 d1 f0 f1
      go_roundw
      case rel => exact ⟨i + 1, by omega, by go_num, hP5, hB5⟩
      case measure => simp [intOf]; omega
    · obtain rfl : i = m := by omega
      clear HLk
      go_wp2
      go_ret
      exact ⟨w2.heap.size, rfl, hP, hold.size, hold.trans (hb.mono hold.size)⟩

end Go.Proofs.YtoejenejleocdabGreatDoor
