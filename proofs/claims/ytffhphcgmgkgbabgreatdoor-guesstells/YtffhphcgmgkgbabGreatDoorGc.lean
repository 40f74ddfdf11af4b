/- Parts: divisor, isPart, lowest, Add and Times of package guess. -/
import Derived.Test.YtffhphcgmgkgbabGreatDoorGb
import Derived.Test.YtffhphcgmgkgbabGreatDoorJg
import Derived.Lib.Hide
namespace Go.Proofs.YtffhphcgmgkgbabGreatDoor
open Go.RowKit
attribute [local irreducible] Bt.pop Bt.popF

theorem gcd_turn (x y : Nat) : Nat.gcd y (x % y) = Nat.gcd x y := by
  rw [Nat.gcd_comm x y, Nat.gcd_rec y x, Nat.gcd_comm]
theorem tmod_nat (x y : Nat) : ((x : Nat) : Int).tmod ((y : Nat) : Int) = ((x % y : Nat) : Int) := by
  rw [Int.tmod_eq_emod_of_nonneg (by omega)]; rfl
theorem tdiv_nat (x y : Nat) : ((x : Nat) : Int).tdiv ((y : Nat) : Int) = ((x / y : Nat) : Int) := by
  rw [Int.tdiv_eq_ediv_of_nonneg (by omega)]; rfl

set_option maxHeartbeats 400000 in
theorem divisor_any (a b : Nat) (w : World) (ha : a < 9223372036854775808) (hb : b < 9223372036854775808) :
    Calls Tryz.prog 17 #[.int .i64 a, .int .i64 b] w fun e w' => e = .returned (.int .i64 (Nat.gcd a b : Nat)) ∧ Below w.heap.size w w' := by
  have HG0 : Hid (Nat.gcd a b = Nat.gcd a b) := Lib.hid rfl
  generalize hg : Nat.gcd a b = g at *
  have HG := Lib.hid hg
  clear hg HG0
  go_enter Tryz.func17, Tryz.ntmps17
  go_wp2
  go_loopw [0, 1] (fun s0 s1 W => ∃ x y : Nat, s0 = .int .i64 x ∧ s1 = .int .i64 y ∧ x < 9223372036854775808 ∧ y < 9223372036854775808 ∧ Hid (Nat.gcd x y = g) ∧ Below w.heap.size w W) (fun _ s1 _ => (intOf s1).toNat)
  case atStart => exact ⟨a, b, rfl, rfl, ha, hb, HG, Below.refl _ _⟩
  case round =>
    clear HG ha hb
    obtain ⟨x, y, rfl, rfl, hx, hy, HG, hbl⟩ := hrel
    by_cases h0 : y = 0
    · subst h0
      go_wp2
      go_ret
      exact ⟨ret_int (by rw [← HG.out, Nat.gcd_zero_right]), hbl⟩
    · have hz : ((y : Int) == 0) = false := by simp; omega
      have hz2 : ((y : Int) != 0) = true := by simp; omega
      have HT := Lib.hid (tmod_nat x y)
      have HQ : Hid (Nat.gcd y (x % y) = g) := Lib.hid (by rw [gcd_turn]; exact HG.out)
      have hlt : x % y < y := Nat.mod_lt _ (by omega)
      clear HG
      generalize x % y = r at *
      have v1 : ((x : Nat) : Int).tmod ((y : Nat) : Int) = (r : Int) := HT.out
      have v2 : IntKind.i64.wrap (r : Int) = (r : Int) := w64 _ (by omega) (by omega)
      go_wp2
      go_quiet (fail)
      clear v1 v2
      go_wp2
      go_roundw
      case rel => exact ⟨y, r, rfl, rfl, hy, by omega, HQ, Below.drewN hbl _⟩
      case measure => simp [intOf]; omega

theorem isPart_yes (n d : Nat) (w : World) (hd : 1 ≤ d) : Calls Tryz.prog 16 #[.agg #[.int .i64 n, .int .i64 d]] w fun e w' => e = .returned (.bool true) ∧ Below w.heap.size w w' := by
  have h1 : (0 : Int) ≤ (n : Int) := by omega
  have h2 : (1 : Int) ≤ (d : Int) := by omega
  go_enter Tryz.func16, Tryz.ntmps16
  go_wp2
  go_ret
  exact ⟨by first | rfl | simp, (Below.refl _ _).alloc (Nat.le_refl _) _⟩

/-- a block of two cells, made by the call -/
structure Bx2 (w : World) (B : Nat) (x y : Value) (W : World) : Prop where
  c0 : W.cell? ⟨B, 0, none⟩ = some x
  c1 : W.cell? ⟨B, 1, none⟩ = some y
  f0 : W.frozen? ⟨B, 0, none⟩ = false
  f1 : W.frozen? ⟨B, 1, none⟩ = false
  lt : B < W.heap.size
  ge : w.heap.size ≤ B
  old : Below w.heap.size w W
theorem Bx2.new {w0 w : World} (h : Below w0.heap.size w0 w) (x y : Value) (t : TypeId) : Bx2 w0 w.heap.size x y (w.alloc (.cells #[x, y] t)) :=
  ⟨by simp, by simp, by simp, by simp, by simp, h.size, h.alloc h.size _⟩
theorem Bx2.new' {w0 w : World} (h : Below w0.heap.size w0 w) (B : Nat) (hB : w.heap.size = B) (x y : Value) (t : TypeId) : Bx2 w0 B x y (w.alloc (.cells #[x, y] t)) := hB ▸ Bx2.new h x y t
theorem Bx2.on {w : World} {B : Nat} {x y : Value} {W W' : World} (h : Bx2 w B x y W) (hb : Below W.heap.size W W') : Bx2 w B x y W' :=
  ⟨(hb.cell (p := ⟨B, 0, none⟩) h.lt).trans h.c0, (hb.cell (p := ⟨B, 1, none⟩) h.lt).trans h.c1, (hb.frozen (p := ⟨B, 0, none⟩) h.lt).trans h.f0, (hb.frozen (p := ⟨B, 1, none⟩) h.lt).trans h.f1, Nat.lt_of_lt_of_le h.lt hb.size, h.ge, h.old.trans (hb.mono h.old.size)⟩
theorem Bx2.drew {w : World} {B : Nat} {x y : Value} {W : World} (h : Bx2 w B x y W) : Bx2 w B x y W.drew := h.on (Below.refl _ _).drew
theorem Bx2.set {w : World} {B : Nat} {x y : Value} {W : World} (h : Bx2 w B x y W) (x' y' : Value) : Bx2 w B x' y' ((W.setCell ⟨B, 0, none⟩ x').setCell ⟨B, 1, none⟩ y') :=
  ⟨by rw [World.cell?_setCell_other _ _ _ _ (by simp), World.cell?_setCell_same _ _ _ h.c0], World.cell?_setCell_same _ _ _ ((World.cell?_setCell_other _ _ _ _ (by simp)).trans h.c1), by simpa using h.f0, by simpa using h.f1, by simpa using h.lt, h.ge, (h.old.setCell (p := ⟨B, 0, none⟩) h.ge _).setCell (p := ⟨B, 1, none⟩) h.ge _⟩

set_option maxHeartbeats 1000000 in
theorem lowestP_any (n d : Nat) (w : World) (hn : n < 9223372036854775808) (hd : 1 ≤ d) (hd2 : d < 9223372036854775808) :
    Calls Tryz.prog 18 #[.int .i64 n, .int .i64 d] w fun e w' => e = .returned (.agg #[.int .i64 ((Pt.red n d).1 : Nat), .int .i64 ((Pt.red n d).2 : Nat)]) ∧ Below w.heap.size w w' := by
  have HP := Lib.hid (fun W => isPart_yes n d W hd)
  have HD := Lib.hid (fun W => divisor_any n d W hn hd2)
  have HQ1 := Lib.hid (tdiv_nat n (Nat.gcd n d))
  have HQ2 := Lib.hid (tdiv_nat d (Nat.gcd n d))
  have hg : 0 < Nat.gcd n d := Nat.gcd_pos_of_pos_right n hd
  have hl1 : n / Nat.gcd n d ≤ n := Nat.div_le_self _ _
  have hl2 : d / Nat.gcd n d ≤ d := Nat.div_le_self _ _
  have hg2 : Nat.gcd n d ≤ d := Nat.le_of_dvd hd (Nat.gcd_dvd_right n d)
  unfold Pt.red
  dsimp only
  generalize n / Nat.gcd n d = p at *
  generalize d / Nat.gcd n d = q at *
  generalize Nat.gcd n d = g at *
  have J0 := Bx2.new (Below.refl w.heap.size w) (.int .i64 0) (.int .i64 0) 24
  go_enter Tryz.func18, Tryz.ntmps18
  go_wp2_with fail
  with_reducible refine (HP.out _).mono ?_
  rintro e w1 ⟨rfl, hb1⟩
  clear HP
  have J1 := J0.on hb1
  clear J0 hb1
  go_wp2_with fail
  with_reducible refine (HD.out _).mono ?_
  rintro e w2 ⟨rfl, hb3⟩
  clear HD
  have J2 := J1.on hb3
  clear J1 hb3
  have c0 := J2.c0
  have c1 := J2.c1
  have f0 := J2.f0
  have f1 := J2.f1
  have hz : ((g : Int) == 0) = false := by simp; omega
  have v1 : ((n : Nat) : Int).tdiv ((g : Nat) : Int) = (p : Int) := HQ1.out
  have v2 : ((d : Nat) : Int).tdiv ((g : Nat) : Int) = (q : Int) := HQ2.out
  have v3 : IntKind.i64.wrap (p : Int) = (p : Int) := w64 _ (by omega) (by omega)
  have v4 : IntKind.i64.wrap (q : Int) = (q : Int) := w64 _ (by omega) (by omega)
  have J3 := J2.set (.int .i64 p) (.int .i64 q)
  clear J2
  go_wp2
  go_region
  all_goals
    go_wp2
    have c0 := J3.drew.c0
    have c1 := J3.drew.c1
    refine bodyPost_ret (v := .agg #[.int .i64 p, .int .i64 q]) (by simp [results, Tryz.results18, go_sem, c0, c1]) rfl ⟨rfl, J3.drew.old⟩

/-- the two cells of the variable 'nothing' -/
structure NG (w : World) : Prop where
  n0 : w.cell? ⟨0, 0, none⟩ = some (.int .i64 0)
  n1 : w.cell? ⟨0, 1, none⟩ = some (.int .i64 1)
  lt : 0 < w.heap.size
theorem NG.on {w w' : World} (h : NG w) (hb : Below w.heap.size w w') : NG w' :=
  ⟨(hb.cell (p := ⟨0, 0, none⟩) h.lt).trans h.n0, (hb.cell (p := ⟨0, 1, none⟩) h.lt).trans h.n1, Nat.lt_of_lt_of_le h.lt hb.size⟩

set_option maxHeartbeats 1000000 in
theorem times_any (a b c d : Nat) (w : World) (hb : 1 ≤ b) (hd : 1 ≤ d) (h1 : a * c < 9223372036854775808) (h2 : b * d < 9223372036854775808) :
    Calls Tryz.prog 8 #[.agg #[.int .i64 a, .int .i64 b], .agg #[.int .i64 c, .int .i64 d]] w fun e w' => e = .returned (.agg #[.int .i64 ((Pt.timP (a, b) (c, d)).1 : Nat), .int .i64 ((Pt.timP (a, b) (c, d)).2 : Nat)]) ∧ Below w.heap.size w w' := by
  have HP1 := Lib.hid (fun W => isPart_yes a b W hb)
  have HP2 := Lib.hid (fun W => isPart_yes c d W hd)
  have HL := Lib.hid (fun W => lowestP_any (a * c) (b * d) W h1 (Nat.mul_pos hb hd) h2)
  have e1 : ((a * c : Nat) : Int) = (a : Int) * (c : Int) := Int.natCast_mul _ _
  have e2 : ((b * d : Nat) : Int) = (b : Int) * (d : Int) := Int.natCast_mul _ _
  rw [show Pt.timP (a, b) (c, d) = Pt.red (a * c) (b * d) from rfl]
  generalize Pt.red (a * c) (b * d) = r at *
  have HE1 := Lib.hid e1
  have HE2 := Lib.hid e2
  generalize a * c = x at *
  generalize b * d = y at *
  have v1 : IntKind.i64.wrap ((a : Int) * (c : Int)) = (x : Int) := by rw [← HE1.out]; exact w64 _ (by omega) (by omega)
  have v2 : IntKind.i64.wrap ((b : Int) * (d : Int)) = (y : Int) := by rw [← HE2.out]; exact w64 _ (by omega) (by omega)
  have V1 := Lib.hid v1
  have V2 := Lib.hid v2
  clear e1 e2 v1 v2
  have A0 := Bx2.new (Below.refl w.heap.size w) (.int .i64 a) (.int .i64 b) 24
  have B0 := Bx2.new' A0.old (w.heap.size + 1) (by simp) (.int .i64 c) (.int .i64 d) 24
  have R0 := Bx2.new' B0.old (w.heap.size + 1 + 1) (by simp) (.int .i64 0) (.int .i64 0) 24
  have A1 := (A0.on ((Below.refl _ _).alloc (Nat.le_refl _) (.cells #[.int .i64 c, .int .i64 d] 24))).on ((Below.refl _ _).alloc (Nat.le_refl _) (.cells #[.int .i64 0, .int .i64 0] 24))
  have B1 := B0.on ((Below.refl _ _).alloc (Nat.le_refl _) (.cells #[.int .i64 0, .int .i64 0] 24))
  clear A0 B0
  go_enter Tryz.func8, Tryz.ntmps8
  go_wp2_with fail
  with_reducible refine (HP1.out _).mono ?_
  rintro e w1 ⟨rfl, hb1⟩
  clear HP1
  have A2 := A1.on hb1
  have B2 := B1.on hb1
  have R2 := R0.on hb1
  clear A1 B1 R0 hb1
  have b0 := B2.c0
  have b1 := B2.c1
  go_wp2_with fail
  with_reducible refine (HP2.out _).mono ?_
  rintro e w2 ⟨rfl, hb2⟩
  clear HP2 b0 b1
  have A3 := A2.on hb2
  have B3 := B2.on hb2
  have R3 := R2.on hb2
  clear A2 B2 R2 hb2
  have a0 := A3.c0
  have a1 := A3.c1
  have b0 := B3.c0
  have b1 := B3.c1
  have v1 := V1.out
  have v2 := V2.out
  clear A3 B3
  go_wp2_with fail
  with_reducible refine (HL.out _).mono ?_
  rintro e w3 ⟨rfl, hb3⟩
  clear HL v1 v2 a0 a1 b0 b1
  have R4 := R3.on hb3
  have r0 := R4.c0
  have r1 := R4.c1
  have g0 := R4.f0
  have g1 := R4.f1
  have R5 := R4.set (.int .i64 (r.1 : Nat)) (.int .i64 (r.2 : Nat))
  clear R3 R4 hb3
  go_wp2
  clear r0 r1 g0 g1
  have c0 := R5.c0
  have c1 := R5.c1
  refine bodyPost_ret (v := .agg #[.int .i64 (r.1 : Nat), .int .i64 (r.2 : Nat)]) (by simp [results, Tryz.results8, go_sem, c0, c1]) rfl ⟨rfl, R5.old⟩

set_option maxHeartbeats 2000000 in
theorem add_any (a b c d : Nat) (w : World) (hb : 1 ≤ b) (hd : 1 ≤ d) (h1 : a * d + c * b < 9223372036854775808) (h2 : b * d < 9223372036854775808) :
    Calls Tryz.prog 6 #[.agg #[.int .i64 a, .int .i64 b], .agg #[.int .i64 c, .int .i64 d]] w fun e w' => e = .returned (.agg #[.int .i64 ((Pt.sumP (a, b) (c, d)).1 : Nat), .int .i64 ((Pt.sumP (a, b) (c, d)).2 : Nat)]) ∧ Below w.heap.size w w' := by
  have hg : 0 < Nat.gcd b d := Nat.gcd_pos_of_pos_left _ hb
  have hle1 : a * (d / Nat.gcd b d) ≤ a * d := Nat.mul_le_mul_left _ (Nat.div_le_self _ _)
  have hle2 : c * (b / Nat.gcd b d) ≤ c * b := Nat.mul_le_mul_left _ (Nat.div_le_self _ _)
  have hle3 : b * (d / Nat.gcd b d) ≤ b * d := Nat.mul_le_mul_left _ (Nat.div_le_self _ _)
  have hbl : b < 9223372036854775808 := Nat.lt_of_le_of_lt (Nat.le_mul_of_pos_right b hd) h2
  have hdl : d < 9223372036854775808 := Nat.lt_of_le_of_lt (Nat.le_mul_of_pos_left d hb) h2
  have hqb : b / Nat.gcd b d ≤ b := Nat.div_le_self _ _
  have hqd : d / Nat.gcd b d ≤ d := Nat.div_le_self _ _
  have hgb : Nat.gcd b d ≤ b := Nat.le_of_dvd hb (Nat.gcd_dvd_left b d)
  have hy0 : 1 ≤ b * (d / Nat.gcd b d) := Nat.mul_pos hb (Nat.div_pos (Nat.le_of_dvd hd (Nat.gcd_dvd_right b d)) hg)
  have HP1 := Lib.hid (fun W => isPart_yes a b W hb)
  have HP2 := Lib.hid (fun W => isPart_yes c d W hd)
  have HD := Lib.hid (fun W => divisor_any b d W hbl hdl)
  have HL := Lib.hid (fun W => lowestP_any (a * (d / Nat.gcd b d) + c * (b / Nat.gcd b d)) (b * (d / Nat.gcd b d)) W (by omega) hy0 (by omega))
  have HS := Pt.sumP_least (a, b) (c, d) hb
  dsimp only at HS
  rw [HS] at HL
  have HQ1 := Lib.hid (tdiv_nat d (Nat.gcd b d))
  have HQ2 := Lib.hid (tdiv_nat b (Nat.gcd b d))
  clear HS
  generalize Pt.sumP (a, b) (c, d) = r at *
  generalize Nat.gcd b d = g at *
  generalize d / g = td at *
  generalize b / g = tb at *
  have E1 := Lib.hid (Int.natCast_mul a td)
  have E2 := Lib.hid (Int.natCast_mul c tb)
  have E3 := Lib.hid (Int.natCast_mul b td)
  have hk1 : a * td < 9223372036854775808 := by omega
  have hk2 : c * tb < 9223372036854775808 := by omega
  have hk3 : b * td < 9223372036854775808 := by omega
  have hk4 : a * td + c * tb < 9223372036854775808 := by omega
  clear hle1 hle2 hle3 h1 h2
  generalize a * td = p1 at *
  generalize c * tb = p2 at *
  generalize b * td = y at *
  have V1 : Hid (IntKind.i64.wrap ((a : Int) * (td : Int)) = (p1 : Int)) := Lib.hid (by rw [← E1.out]; exact w64 _ (by omega) (by omega))
  have V2 : Hid (IntKind.i64.wrap ((c : Int) * (tb : Int)) = (p2 : Int)) := Lib.hid (by rw [← E2.out]; exact w64 _ (by omega) (by omega))
  have V3 : Hid (IntKind.i64.wrap ((b : Int) * (td : Int)) = (y : Int)) := Lib.hid (by rw [← E3.out]; exact w64 _ (by omega) (by omega))
  have V4 : Hid (IntKind.i64.wrap ((p1 : Int) + (p2 : Int)) = ((p1 + p2 : Nat) : Int)) := Lib.hid (by rw [← Int.natCast_add]; exact w64 _ (by omega) (by omega))
  generalize p1 + p2 = x at *
  have A0 := Bx2.new (Below.refl w.heap.size w) (.int .i64 a) (.int .i64 b) 24
  have B0 := Bx2.new' A0.old (w.heap.size + 1) (by simp) (.int .i64 c) (.int .i64 d) 24
  have R0 := Bx2.new' B0.old (w.heap.size + 1 + 1) (by simp) (.int .i64 0) (.int .i64 0) 24
  have A1 := (A0.on ((Below.refl _ _).alloc (Nat.le_refl _) (.cells #[.int .i64 c, .int .i64 d] 24))).on ((Below.refl _ _).alloc (Nat.le_refl _) (.cells #[.int .i64 0, .int .i64 0] 24))
  have B1 := B0.on ((Below.refl _ _).alloc (Nat.le_refl _) (.cells #[.int .i64 0, .int .i64 0] 24))
  clear A0 B0 E1 E2 E3
  go_enter Tryz.func6, Tryz.ntmps6
  go_wp2_with fail
  with_reducible refine (HP1.out _).mono ?_
  rintro e w1 ⟨rfl, hb1⟩
  clear HP1
  have A2 := A1.on hb1
  have B2 := B1.on hb1
  have R2 := R0.on hb1
  clear A1 B1 R0 hb1
  have b0 := B2.c0
  have b1 := B2.c1
  go_wp2_with fail
  with_reducible refine (HP2.out _).mono ?_
  rintro e w2 ⟨rfl, hb2⟩
  clear HP2 b0 b1
  have A3 := A2.on hb2
  have B3 := B2.on hb2
  have R3 := R2.on hb2
  clear A2 B2 R2 hb2
  have a1 := A3.c1
  have b1 := B3.c1
  go_wp2_with fail
  with_reducible refine (HD.out _).mono ?_
  rintro e w3 ⟨rfl, hb3⟩
  clear HD a1 b1
  have A4 := A3.on hb3
  have B4 := B3.on hb3
  have R4 := R3.on hb3
  clear A3 B3 R3 hb3
  have a1 := A4.c1
  have b1 := B4.c1
  have hz : ((g : Int) == 0) = false := by simp; omega
  have u1 : ((d : Nat) : Int).tdiv ((g : Nat) : Int) = (td : Int) := HQ1.out
  have u2 : ((b : Nat) : Int).tdiv ((g : Nat) : Int) = (tb : Int) := HQ2.out
  have u3 : IntKind.i64.wrap (td : Int) = (td : Int) := w64 _ (by omega) (by omega)
  have u4 : IntKind.i64.wrap (tb : Int) = (tb : Int) := w64 _ (by omega) (by omega)
  go_wp2
  go_quiet (fail)
  clear a1 b1 u1 u2 u3 u4 hz
  generalize hW : w3.drewN _ = w4 at *
  have hbw : Below w3.heap.size w3 w4 := by rw [← hW]; exact Below.drewN (Below.refl _ _) _
  clear hW
  have A5 := A4.on hbw
  have B5 := B4.on hbw
  have R5 := R4.on hbw
  clear A4 B4 R4 hbw
  have a0 := A5.c0
  have a1 := A5.c1
  have b0 := B5.c0
  have v1 := V1.out
  have v2 := V2.out
  have v3 := V3.out
  have v4 := V4.out
  go_wp2_with fail
  with_reducible refine (HL.out _).mono ?_
  rintro e w5 ⟨rfl, hb5⟩
  clear HL v1 v2 v3 v4 a0 a1 b0 A5 B5
  have R6 := R5.on hb5
  have r0 := R6.c0
  have r1 := R6.c1
  have g0 := R6.f0
  have g1 := R6.f1
  have R7 := R6.set (.int .i64 (r.1 : Nat)) (.int .i64 (r.2 : Nat))
  clear R5 R6 hb5
  go_wp2
  clear r0 r1 g0 g1
  have c0 := R7.c0
  have c1 := R7.c1
  refine bodyPost_ret (v := .agg #[.int .i64 (r.1 : Nat), .int .i64 (r.2 : Nat)]) (by simp [results, Tryz.results6, go_sem, c0, c1]) rfl ⟨rfl, R7.old⟩

end Go.Proofs.YtffhphcgmgkgbabGreatDoor
