/- The document's own parts: gcd, part, SumOf and TimesOf of the reference. -/
import Derived.Test.YtoejenejleocdabGreatDoorJy
namespace Go.Proofs.YtoejenejleocdabGreatDoor
open Go.RowKit
attribute [local irreducible] Bt.pop Bt.popF

set_option maxHeartbeats 400000 in
theorem gcdR_any (a b : Nat) (w : World) (ha : a < 9223372036854775808) (hb : b < 9223372036854775808) (hb0 : 0 < b) :
    Calls Tryz.prog 65 #[.int .i64 a, .int .i64 b] w fun e w' => e = .returned (.int .i64 (Nat.gcd a b : Nat)) ∧ Below w.heap.size w w' := by
  have HG0 : Hid (Nat.gcd a b = Nat.gcd a b) := Lib.hid rfl
  generalize hg : Nat.gcd a b = g at *
  have HG := Lib.hid hg
  clear hg HG0
  go_enter Tryz.func65, Tryz.ntmps65
  go_wp2
  go_loopw [0, 1] (fun s0 s1 W => ∃ x y : Nat, s0 = .int .i64 x ∧ s1 = .int .i64 y ∧ x < 9223372036854775808 ∧ y < 9223372036854775808 ∧ 0 < y ∧ Hid (Nat.gcd x y = g) ∧ Below w.heap.size w W) (fun _ s1 _ => (intOf s1).toNat)
  case atStart => exact ⟨a, b, rfl, rfl, ha, hb, hb0, HG, Below.refl _ _⟩
  case round =>
    clear HG ha hb hb0
    obtain ⟨x, y, rfl, rfl, hx, hy, hy0, HG, hbl⟩ := hrel
    have hz : ((y : Int) == 0) = false := by simp; omega
    have HT := Lib.hid (tmod_nat x y)
    have HQ : Hid (Nat.gcd y (x % y) = g) := Lib.hid (by rw [gcd_turn]; exact HG.out)
    have hlt : x % y < y := Nat.mod_lt _ (by omega)
    have HE : Hid ((x : Int) % (y : Int) = ((x % y : Nat) : Int)) := Lib.hid (by omega)
    clear HG
    generalize x % y = r at *
    have v1 : ((x : Nat) : Int).tmod ((y : Nat) : Int) = (r : Int) := HT.out
    have v2 : IntKind.i64.wrap (r : Int) = (r : Int) := w64 _ (by omega) (by omega)
    have v3 : (x : Int) % (y : Int) = (r : Int) := HE.out
    by_cases h0 : r = 0
    · subst h0
      have z1 : (((0 : Nat) : Int) != 0) = false := by simp
      go_wp2
      go_ret
      exact ⟨ret_int (by rw [← HQ.out, Nat.gcd_zero_right]), hbl⟩
    · have z1 : ((r : Int) != 0) = true := by simp; omega
      go_wp2
      go_quiet (fail)
      clear v1 v2 v3
      go_wp2
      go_roundw
      case rel => exact ⟨y, r, rfl, rfl, hy, by omega, by omega, HQ, Below.drewN hbl _⟩
      case measure => simp [intOf]; omega

set_option maxHeartbeats 1000000 in
theorem partR_any (n d : Nat) (w : World) (hn : n < 9223372036854775808) (hd : 1 ≤ d) (hd2 : d < 9223372036854775808) :
    Calls Tryz.prog 39 #[.int .i64 n, .int .i64 d] w fun e w' => e = .returned (.agg #[.int .i64 ((Pt.red n d).1 : Nat), .int .i64 ((Pt.red n d).2 : Nat)]) ∧ Below w.heap.size w w' := by
  by_cases h0 : n = 0
  · subst h0
    rw [Pt.red_zero hd]
    go_enter Tryz.func39, Tryz.ntmps39
    go_wp2
    refine bodyPost_ret (v := .agg #[.int .i64 0, .int .i64 1]) (by simp [results, Tryz.results39, go_sem]) rfl ⟨rfl, (Below.refl _ w).alloc (Nat.le_refl _) _⟩
  · have HD := Lib.hid (fun W => gcdR_any n d W hn hd2 hd)
    have HQ1 := Lib.hid (tdiv_nat n (Nat.gcd n d))
    have HQ2 := Lib.hid (tdiv_nat d (Nat.gcd n d))
    have hg : 0 < Nat.gcd n d := Nat.gcd_pos_of_pos_right n hd
    have hl1 : n / Nat.gcd n d ≤ n := Nat.div_le_self _ _
    have hl2 : d / Nat.gcd n d ≤ d := Nat.div_le_self _ _
    have hg2 : Nat.gcd n d ≤ d := Nat.le_of_dvd hd (Nat.gcd_dvd_right n d)
    unfold Pt.red
    dsimp only
    generalize n / Nat.gcd n d = p at *
    generalize d / Nat.gcd n d = q at *
    generalize Nat.gcd n d = g at *
    have z0 : ((n : Int) == 0) = false := by simp; omega
    have J0 := Bx2.new (Below.refl w.heap.size w) (.int .i64 0) (.int .i64 0) 24
    go_enter Tryz.func39, Tryz.ntmps39
    go_wp2_with fail
    with_reducible refine (HD.out _).mono ?_
    rintro e w2 ⟨rfl, hb3⟩
    clear HD
    have J2 := J0.on hb3
    clear J0 hb3
    have c0 := J2.c0
    have c1 := J2.c1
    have f0 := J2.f0
    have f1 := J2.f1
    have hz : ((g : Int) == 0) = false := by simp; omega
    have v1 : ((n : Nat) : Int).tdiv ((g : Nat) : Int) = (p : Int) := HQ1.out
    have v2 : ((d : Nat) : Int).tdiv ((g : Nat) : Int) = (q : Int) := HQ2.out
    have v3 : IntKind.i64.wrap (p : Int) = (p : Int) := w64 _ (by omega) (by omega)
    have v4 : IntKind.i64.wrap (q : Int) = (q : Int) := w64 _ (by omega) (by omega)
    have J3 := J2.set (.int .i64 p) (.int .i64 q)
    clear J2
    go_wp2
    go_region
    all_goals
      go_wp2
      have c0 := J3.drew.c0
      have c1 := J3.drew.c1
      refine bodyPost_ret (v := .agg #[.int .i64 p, .int .i64 q]) (by simp [results, Tryz.results39, go_sem, c0, c1]) rfl ⟨rfl, J3.drew.old⟩

set_option maxHeartbeats 1000000 in
theorem timesR_any (a b c d : Nat) (w : World) (hb : 1 ≤ b) (hd : 1 ≤ d) (h1 : a * c < 9223372036854775808) (h2 : b * d < 9223372036854775808) :
    Calls Tryz.prog 13 #[.agg #[.int .i64 a, .int .i64 b], .agg #[.int .i64 c, .int .i64 d]] w fun e w' => e = .returned (.agg #[.int .i64 ((Pt.timP (a, b) (c, d)).1 : Nat), .int .i64 ((Pt.timP (a, b) (c, d)).2 : Nat)]) ∧ Below w.heap.size w w' := by
  have HL := Lib.hid (fun W => partR_any (a * c) (b * d) W h1 (Nat.mul_pos hb hd) h2)
  have e1 : ((a * c : Nat) : Int) = (a : Int) * (c : Int) := Int.natCast_mul _ _
  have e2 : ((b * d : Nat) : Int) = (b : Int) * (d : Int) := Int.natCast_mul _ _
  rw [show Pt.timP (a, b) (c, d) = Pt.red (a * c) (b * d) from rfl]
  generalize Pt.red (a * c) (b * d) = r at *
  have HE1 := Lib.hid e1
  have HE2 := Lib.hid e2
  generalize a * c = x at *
  generalize b * d = y at *
  have v1 : IntKind.i64.wrap ((a : Int) * (c : Int)) = (x : Int) := by rw [← HE1.out]; exact w64 _ (by omega) (by omega)
  have v2 : IntKind.i64.wrap ((b : Int) * (d : Int)) = (y : Int) := by rw [← HE2.out]; exact w64 _ (by omega) (by omega)
  clear e1 e2
  have A0 := Bx2.new (Below.refl w.heap.size w) (.int .i64 a) (.int .i64 b) 24
  have B0 := Bx2.new' A0.old (w.heap.size + 1) (by simp) (.int .i64 c) (.int .i64 d) 24
  have R0 := Bx2.new' B0.old (w.heap.size + 1 + 1) (by simp) (.int .i64 0) (.int .i64 0) 24
  clear A0 B0
  go_enter Tryz.func13, Tryz.ntmps13
  go_wp2_with fail
  with_reducible refine (HL.out _).mono ?_
  rintro e w3 ⟨rfl, hb3⟩
  clear HL v1 v2
  have R4 := R0.on hb3
  have r0 := R4.c0
  have r1 := R4.c1
  have g0 := R4.f0
  have g1 := R4.f1
  have R5 := R4.set (.int .i64 (r.1 : Nat)) (.int .i64 (r.2 : Nat))
  clear R0 R4 hb3
  go_wp2
  clear r0 r1 g0 g1
  have c0 := R5.c0
  have c1 := R5.c1
  refine bodyPost_ret (v := .agg #[.int .i64 (r.1 : Nat), .int .i64 (r.2 : Nat)]) (by simp [results, Tryz.results13, go_sem, c0, c1]) rfl ⟨rfl, R5.old⟩

set_option maxHeartbeats 1000000 in
theorem sumR_any (a b c d : Nat) (w : World) (hb : 1 ≤ b) (hd : 1 ≤ d) (h1 : a * d + c * b < 9223372036854775808) (h2 : b * d < 9223372036854775808) :
    Calls Tryz.prog 15 #[.agg #[.int .i64 a, .int .i64 b], .agg #[.int .i64 c, .int .i64 d]] w fun e w' => e = .returned (.agg #[.int .i64 ((Pt.sumP (a, b) (c, d)).1 : Nat), .int .i64 ((Pt.sumP (a, b) (c, d)).2 : Nat)]) ∧ Below w.heap.size w w' := by
  have HL := Lib.hid (fun W => partR_any (a * d + c * b) (b * d) W h1 (Nat.mul_pos hb hd) h2)
  rw [show Pt.sumP (a, b) (c, d) = Pt.red (a * d + c * b) (b * d) from rfl]
  generalize Pt.red (a * d + c * b) (b * d) = r at *
  have E1 := Lib.hid (Int.natCast_mul a d)
  have E2 := Lib.hid (Int.natCast_mul c b)
  have E3 := Lib.hid (Int.natCast_mul b d)
  generalize a * d = p1 at *
  generalize c * b = p2 at *
  generalize b * d = y at *
  have v1 : IntKind.i64.wrap ((a : Int) * (d : Int)) = (p1 : Int) := by rw [← E1.out]; exact w64 _ (by omega) (by omega)
  have v2 : IntKind.i64.wrap ((c : Int) * (b : Int)) = (p2 : Int) := by rw [← E2.out]; exact w64 _ (by omega) (by omega)
  have v3 : IntKind.i64.wrap ((b : Int) * (d : Int)) = (y : Int) := by rw [← E3.out]; exact w64 _ (by omega) (by omega)
  have v4 : IntKind.i64.wrap ((p1 : Int) + (p2 : Int)) = ((p1 + p2 : Nat) : Int) := by rw [← Int.natCast_add]; exact w64 _ (by omega) (by omega)
  generalize p1 + p2 = x at *
  have A0 := Bx2.new (Below.refl w.heap.size w) (.int .i64 a) (.int .i64 b) 24
  have B0 := Bx2.new' A0.old (w.heap.size + 1) (by simp) (.int .i64 c) (.int .i64 d) 24
  have R0 := Bx2.new' B0.old (w.heap.size + 1 + 1) (by simp) (.int .i64 0) (.int .i64 0) 24
  clear A0 B0 E1 E2 E3
  go_enter Tryz.func15, Tryz.ntmps15
  go_wp2_with fail
  with_reducible refine (HL.out _).mono ?_
  rintro e w3 ⟨rfl, hb3⟩
  clear HL v1 v2 v3 v4
  have R4 := R0.on hb3
  have r0 := R4.c0
  have r1 := R4.c1
  have g0 := R4.f0
  have g1 := R4.f1
  have R5 := R4.set (.int .i64 (r.1 : Nat)) (.int .i64 (r.2 : Nat))
  clear R0 R4 hb3
  go_wp2
  clear r0 r1 g0 g1
  have c0 := R5.c0
  have c1 := R5.c1
  refine bodyPost_ret (v := .agg #[.int .i64 (r.1 : Nat), .int .i64 (r.2 : Nat)]) (by simp [results, Tryz.results15, go_sem, c0, c1]) rfl ⟨rfl, R5.old⟩

end Go.Proofs.YtoejenejleocdabGreatDoor
