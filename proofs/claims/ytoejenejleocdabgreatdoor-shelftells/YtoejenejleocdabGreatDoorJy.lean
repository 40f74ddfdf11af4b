import Derived.Test.YtoejenejleocdabGreatDoorJx
import Derived.Test.YtoejenejleocdabGreatDoorJg
import Derived.Lib.Hide
import Derived.Test.YtoejenejleocdabGreatDoorJi
import Derived.Test.YtoejenejleocdabGreatDoorJb
import Derived.Deep.AppendLies
/- Parts: divisor, isPart, lowest, Add and Times of package guess. -/
namespace Go.Proofs.YtoejenejleocdabGreatDoor
open Go.RowKit
attribute [local irreducible] Bt.pop Bt.popF

theorem gcd_turn (x y : Nat) : Nat.gcd y (x % y) = Nat.gcd x y := by
  rw [Nat.gcd_comm x y, Nat.gcd_rec y x, Nat.gcd_comm]
theorem tmod_nat (x y : Nat) : ((x : Nat) : Int).tmod ((y : Nat) : Int) = ((x % y : Nat) : Int) := by
  rw [Int.tmod_eq_emod_of_nonneg (by omega)]; rfl
theorem tdiv_nat (x y : Nat) : ((x : Nat) : Int).tdiv ((y : Nat) : Int) = ((x / y : Nat) : Int) := by
  rw [Int.tdiv_eq_ediv_of_nonneg (by omega)]; rfl

set_option maxHeartbeats 400000 in
theorem divisor_any (a b : Nat) (w : World) (ha : a < 9223372036854775808) (hb : b < 9223372036854775808) :
    Calls Tryz.prog 41 #[.int .i64 a, .int .i64 b] w fun e w' => e = .returned (.int .i64 (Nat.gcd a b : Nat)) ∧ Below w.heap.size w w' := by
  have HG0 : Hid (Nat.gcd a b = Nat.gcd a b) := Lib.hid rfl
  generalize hg : Nat.gcd a b = g at *
  have HG := Lib.hid hg
  clear hg HG0
  go_enter Tryz.func41, Tryz.ntmps41
  go_wp2
  go_loopw [0, 1] (fun s0 s1 W => ∃ x y : Nat, s0 = .int .i64 x ∧ s1 = .int .i64 y ∧ x < 9223372036854775808 ∧ y < 9223372036854775808 ∧ Hid (Nat.gcd x y = g) ∧ Below w.heap.size w W) (fun _ s1 _ => (intOf s1).toNat)
  case atStart => exact ⟨a, b, rfl, rfl, ha, hb, HG, Below.refl _ _⟩
  case round =>
    clear HG ha hb
    obtain ⟨x, y, rfl, rfl, hx, hy, HG, hbl⟩ := hrel
    by_cases h0 : y = 0
    · subst h0
      go_wp2
      go_ret
      exact ⟨ret_int (by rw [← HG.out, Nat.gcd_zero_right]), hbl⟩
    · have hz : ((y : Int) == 0) = false := by simp; omega
      have hz2 : ((y : Int) != 0) = true := by simp; omega
      have HT := Lib.hid (tmod_nat x y)
      have HQ : Hid (Nat.gcd y (x % y) = g) := Lib.hid (by rw [gcd_turn]; exact HG.out)
      have hlt : x % y < y := Nat.mod_lt _ (by omega)
      clear HG
      generalize x % y = r at *
      have v1 : ((x : Nat) : Int).tmod ((y : Nat) : Int) = (r : Int) := HT.out
      have v2 : IntKind.i64.wrap (r : Int) = (r : Int) := w64 _ (by omega) (by omega)
      go_wp2
      go_quiet (fail)
      clear v1 v2
      go_wp2
      go_roundw
      case rel => exact ⟨y, r, rfl, rfl, hy, by omega, HQ, Below.drewN hbl _⟩
      case measure => simp [intOf]; omega

theorem isPart_yes (n d : Nat) (w : World) (hd : 1 ≤ d) : Calls Tryz.prog 40 #[.agg #[.int .i64 n, .int .i64 d]] w fun e w' => e = .returned (.bool true) ∧ Below w.heap.size w w' := by
  have h1 : (0 : Int) ≤ (n : Int) := by omega
  have h2 : (1 : Int) ≤ (d : Int) := by omega
  go_enter Tryz.func40, Tryz.ntmps40
  go_wp2
  go_ret
  exact ⟨by first | rfl | simp, (Below.refl _ _).alloc (Nat.le_refl _) _⟩

/-- a block of two cells, made by the call -/
structure Bx2 (w : World) (B : Nat) (x y : Value) (W : World) : Prop where
  c0 : W.cell? ⟨B, 0, none⟩ = some x
  c1 : W.cell? ⟨B, 1, none⟩ = some y
  f0 : W.frozen? ⟨B, 0, none⟩ = false
  f1 : W.frozen? ⟨B, 1, none⟩ = false
  lt : B < W.heap.size
  ge : w.heap.size ≤ B
  old : Below w.heap.size w W
theorem Bx2.new {w0 w : World} (h : Below w0.heap.size w0 w) (x y : Value) (t : TypeId) : Bx2 w0 w.heap.size x y (w.alloc (.cells #[x, y] t)) :=
  ⟨by simp, by simp, by simp, by simp, by simp, h.size, h.alloc h.size _⟩
theorem Bx2.new' {w0 w : World} (h : Below w0.heap.size w0 w) (B : Nat) (hB : w.heap.size = B) (x y : Value) (t : TypeId) : Bx2 w0 B x y (w.alloc (.cells #[x, y] t)) := hB ▸ Bx2.new h x y t
theorem Bx2.on {w : World} {B : Nat} {x y : Value} {W W' : World} (h : Bx2 w B x y W) (hb : Below W.heap.size W W') : Bx2 w B x y W' :=
  ⟨(hb.cell (p := ⟨B, 0, none⟩) h.lt).trans h.c0, (hb.cell (p := ⟨B, 1, none⟩) h.lt).trans h.c1, (hb.frozen (p := ⟨B, 0, none⟩) h.lt).trans h.f0, (hb.frozen (p := ⟨B, 1, none⟩) h.lt).trans h.f1, Nat.lt_of_lt_of_le h.lt hb.size, h.ge, h.old.trans (hb.mono h.old.size)⟩
theorem Bx2.drew {w : World} {B : Nat} {x y : Value} {W : World} (h : Bx2 w B x y W) : Bx2 w B x y W.drew := h.on (Below.refl _ _).drew
theorem Bx2.set {w : World} {B : Nat} {x y : Value} {W : World} (h : Bx2 w B x y W) (x' y' : Value) : Bx2 w B x' y' ((W.setCell ⟨B, 0, none⟩ x').setCell ⟨B, 1, none⟩ y') :=
  ⟨by rw [World.cell?_setCell_other _ _ _ _ (by simp), World.cell?_setCell_same _ _ _ h.c0], World.cell?_setCell_same _ _ _ ((World.cell?_setCell_other _ _ _ _ (by simp)).trans h.c1), by simpa using h.f0, by simpa using h.f1, by simpa using h.lt, h.ge, (h.old.setCell (p := ⟨B, 0, none⟩) h.ge _).setCell (p := ⟨B, 1, none⟩) h.ge _⟩

set_option maxHeartbeats 1000000 in
theorem lowestP_any (n d : Nat) (w : World) (hn : n < 9223372036854775808) (hd : 1 ≤ d) (hd2 : d < 9223372036854775808) :
    Calls Tryz.prog 42 #[.int .i64 n, .int .i64 d] w fun e w' => e = .returned (.agg #[.int .i64 ((Pt.red n d).1 : Nat), .int .i64 ((Pt.red n d).2 : Nat)]) ∧ Below w.heap.size w w' := by
  have HP := Lib.hid (fun W => isPart_yes n d W hd)
  have HD := Lib.hid (fun W => divisor_any n d W hn hd2)
  have HQ1 := Lib.hid (tdiv_nat n (Nat.gcd n d))
  have HQ2 := Lib.hid (tdiv_nat d (Nat.gcd n d))
  have hg : 0 < Nat.gcd n d := Nat.gcd_pos_of_pos_right n hd
  have hl1 : n / Nat.gcd n d ≤ n := Nat.div_le_self _ _
  have hl2 : d / Nat.gcd n d ≤ d := Nat.div_le_self _ _
  have hg2 : Nat.gcd n d ≤ d := Nat.le_of_dvd hd (Nat.gcd_dvd_right n d)
  unfold Pt.red
  dsimp only
  generalize n / Nat.gcd n d = p at *
  generalize d / Nat.gcd n d = q at *
  generalize Nat.gcd n d = g at *
  have J0 := Bx2.new (Below.refl w.heap.size w) (.int .i64 0) (.int .i64 0) 24
  go_enter Tryz.func42, Tryz.ntmps42
  go_wp2_with fail
  with_reducible refine (HP.out _).mono ?_
  rintro e w1 ⟨rfl, hb1⟩
  clear HP
  have J1 := J0.on hb1
  clear J0 hb1
  go_wp2_with fail
  with_reducible refine (HD.out _).mono ?_
  rintro e w2 ⟨rfl, hb3⟩
  clear HD
  have J2 := J1.on hb3
  clear J1 hb3
  have c0 := J2.c0
  have c1 := J2.c1
  have f0 := J2.f0
  have f1 := J2.f1
  have hz : ((g : Int) == 0) = false := by simp; omega
  have v1 : ((n : Nat) : Int).tdiv ((g : Nat) : Int) = (p : Int) := HQ1.out
  have v2 : ((d : Nat) : Int).tdiv ((g : Nat) : Int) = (q : Int) := HQ2.out
  have v3 : IntKind.i64.wrap (p : Int) = (p : Int) := w64 _ (by omega) (by omega)
  have v4 : IntKind.i64.wrap (q : Int) = (q : Int) := w64 _ (by omega) (by omega)
  have J3 := J2.set (.int .i64 p) (.int .i64 q)
  clear J2
  go_wp2
  go_region
  all_goals
    go_wp2
    have c0 := J3.drew.c0
    have c1 := J3.drew.c1
    refine bodyPost_ret (v := .agg #[.int .i64 p, .int .i64 q]) (by simp [results, Tryz.results42, go_sem, c0, c1]) rfl ⟨rfl, J3.drew.old⟩

/-- the two cells of the variable 'nothing' -/
structure NG (w : World) : Prop where
  n0 : w.cell? ⟨0, 0, none⟩ = some (.int .i64 0)
  n1 : w.cell? ⟨0, 1, none⟩ = some (.int .i64 1)
  lt : 0 < w.heap.size
theorem NG.on {w w' : World} (h : NG w) (hb : Below w.heap.size w w') : NG w' :=
  ⟨(hb.cell (p := ⟨0, 0, none⟩) h.lt).trans h.n0, (hb.cell (p := ⟨0, 1, none⟩) h.lt).trans h.n1, Nat.lt_of_lt_of_le h.lt hb.size⟩

set_option maxHeartbeats 1000000 in
theorem times_any (a b c d : Nat) (w : World) (hb : 1 ≤ b) (hd : 1 ≤ d) (h1 : a * c < 9223372036854775808) (h2 : b * d < 9223372036854775808) :
    Calls Tryz.prog 16 #[.agg #[.int .i64 a, .int .i64 b], .agg #[.int .i64 c, .int .i64 d]] w fun e w' => e = .returned (.agg #[.int .i64 ((Pt.timP (a, b) (c, d)).1 : Nat), .int .i64 ((Pt.timP (a, b) (c, d)).2 : Nat)]) ∧ Below w.heap.size w w' := by
  have HP1 := Lib.hid (fun W => isPart_yes a b W hb)
  have HP2 := Lib.hid (fun W => isPart_yes c d W hd)
  have HL := Lib.hid (fun W => lowestP_any (a * c) (b * d) W h1 (Nat.mul_pos hb hd) h2)
  have e1 : ((a * c : Nat) : Int) = (a : Int) * (c : Int) := Int.natCast_mul _ _
  have e2 : ((b * d : Nat) : Int) = (b : Int) * (d : Int) := Int.natCast_mul _ _
  rw [show Pt.timP (a, b) (c, d) = Pt.red (a * c) (b * d) from rfl]
  generalize Pt.red (a * c) (b * d) = r at *
  have HE1 := Lib.hid e1
  have HE2 := Lib.hid e2
  generalize a * c = x at *
  generalize b * d = y at *
  have v1 : IntKind.i64.wrap ((a : Int) * (c : Int)) = (x : Int) := by rw [← HE1.out]; exact w64 _ (by omega) (by omega)
  have v2 : IntKind.i64.wrap ((b : Int) * (d : Int)) = (y : Int) := by rw [← HE2.out]; exact w64 _ (by omega) (by omega)
  have V1 := Lib.hid v1
  have V2 := Lib.hid v2
  clear e1 e2 v1 v2
  have A0 := Bx2.new (Below.refl w.heap.size w) (.int .i64 a) (.int .i64 b) 24
  have B0 := Bx2.new' A0.old (w.heap.size + 1) (by simp) (.int .i64 c) (.int .i64 d) 24
  have R0 := Bx2.new' B0.old (w.heap.size + 1 + 1) (by simp) (.int .i64 0) (.int .i64 0) 24
  have A1 := (A0.on ((Below.refl _ _).alloc (Nat.le_refl _) (.cells #[.int .i64 c, .int .i64 d] 24))).on ((Below.refl _ _).alloc (Nat.le_refl _) (.cells #[.int .i64 0, .int .i64 0] 24))
  have B1 := B0.on ((Below.refl _ _).alloc (Nat.le_refl _) (.cells #[.int .i64 0, .int .i64 0] 24))
  clear A0 B0
  go_enter Tryz.func16, Tryz.ntmps16
  go_wp2_with fail
  with_reducible refine (HP1.out _).mono ?_
  rintro e w1 ⟨rfl, hb1⟩
  clear HP1
  have A2 := A1.on hb1
  have B2 := B1.on hb1
  have R2 := R0.on hb1
  clear A1 B1 R0 hb1
  have b0 := B2.c0
  have b1 := B2.c1
  go_wp2_with fail
  with_reducible refine (HP2.out _).mono ?_
  rintro e w2 ⟨rfl, hb2⟩
  clear HP2 b0 b1
  have A3 := A2.on hb2
  have B3 := B2.on hb2
  have R3 := R2.on hb2
  clear A2 B2 R2 hb2
  have a0 := A3.c0
  have a1 := A3.c1
  have b0 := B3.c0
  have b1 := B3.c1
  have v1 := V1.out
  have v2 := V2.out
  clear A3 B3
  go_wp2_with fail
  with_reducible refine (HL.out _).mono ?_
  rintro e w3 ⟨rfl, hb3⟩
  clear HL v1 v2 a0 a1 b0 b1
  have R4 := R3.on hb3
  have r0 := R4.c0
  have r1 := R4.c1
  have g0 := R4.f0
  have g1 := R4.f1
  have R5 := R4.set (.int .i64 (r.1 : Nat)) (.int .i64 (r.2 : Nat))
  clear R3 R4 hb3
  go_wp2
  clear r0 r1 g0 g1
  have c0 := R5.c0
  have c1 := R5.c1
  refine bodyPost_ret (v := .agg #[.int .i64 (r.1 : Nat), .int .i64 (r.2 : Nat)]) (by simp [results, Tryz.results16, go_sem, c0, c1]) rfl ⟨rfl, R5.old⟩

set_option maxHeartbeats 2000000 in
theorem add_any (a b c d : Nat) (w : World) (hb : 1 ≤ b) (hd : 1 ≤ d) (h1 : a * d + c * b < 9223372036854775808) (h2 : b * d < 9223372036854775808) :
    Calls Tryz.prog 14 #[.agg #[.int .i64 a, .int .i64 b], .agg #[.int .i64 c, .int .i64 d]] w fun e w' => e = .returned (.agg #[.int .i64 ((Pt.sumP (a, b) (c, d)).1 : Nat), .int .i64 ((Pt.sumP (a, b) (c, d)).2 : Nat)]) ∧ Below w.heap.size w w' := by
  have hg : 0 < Nat.gcd b d := Nat.gcd_pos_of_pos_left _ hb
  have hle1 : a * (d / Nat.gcd b d) ≤ a * d := Nat.mul_le_mul_left _ (Nat.div_le_self _ _)
  have hle2 : c * (b / Nat.gcd b d) ≤ c * b := Nat.mul_le_mul_left _ (Nat.div_le_self _ _)
  have hle3 : b * (d / Nat.gcd b d) ≤ b * d := Nat.mul_le_mul_left _ (Nat.div_le_self _ _)
  have hbl : b < 9223372036854775808 := Nat.lt_of_le_of_lt (Nat.le_mul_of_pos_right b hd) h2
  have hdl : d < 9223372036854775808 := Nat.lt_of_le_of_lt (Nat.le_mul_of_pos_left d hb) h2
  have hqb : b / Nat.gcd b d ≤ b := Nat.div_le_self _ _
  have hqd : d / Nat.gcd b d ≤ d := Nat.div_le_self _ _
  have hgb : Nat.gcd b d ≤ b := Nat.le_of_dvd hb (Nat.gcd_dvd_left b d)
  have hy0 : 1 ≤ b * (d / Nat.gcd b d) := Nat.mul_pos hb (Nat.div_pos (Nat.le_of_dvd hd (Nat.gcd_dvd_right b d)) hg)
  have HP1 := Lib.hid (fun W => isPart_yes a b W hb)
  have HP2 := Lib.hid (fun W => isPart_yes c d W hd)
  have HD := Lib.hid (fun W => divisor_any b d W hbl hdl)
  have HL := Lib.hid (fun W => lowestP_any (a * (d / Nat.gcd b d) + c * (b / Nat.gcd b d)) (b * (d / Nat.gcd b d)) W (by omega) hy0 (by omega))
  have HS := Pt.sumP_least (a, b) (c, d) hb
  dsimp only at HS
  rw [HS] at HL
  have HQ1 := Lib.hid (tdiv_nat d (Nat.gcd b d))
  have HQ2 := Lib.hid (tdiv_nat b (Nat.gcd b d))
  clear HS
  generalize Pt.sumP (a, b) (c, d) = r at *
  generalize Nat.gcd b d = g at *
  generalize d / g = td at *
  generalize b / g = tb at *
  have E1 := Lib.hid (Int.natCast_mul a td)
  have E2 := Lib.hid (Int.natCast_mul c tb)
  have E3 := Lib.hid (Int.natCast_mul b td)
  have hk1 : a * td < 9223372036854775808 := by omega
  have hk2 : c * tb < 9223372036854775808 := by omega
  have hk3 : b * td < 9223372036854775808 := by omega
  have hk4 : a * td + c * tb < 9223372036854775808 := by omega
  clear hle1 hle2 hle3 h1 h2
  generalize a * td = p1 at *
  generalize c * tb = p2 at *
  generalize b * td = y at *
  have V1 : Hid (IntKind.i64.wrap ((a : Int) * (td : Int)) = (p1 : Int)) := Lib.hid (by rw [← E1.out]; exact w64 _ (by omega) (by omega))
  have V2 : Hid (IntKind.i64.wrap ((c : Int) * (tb : Int)) = (p2 : Int)) := Lib.hid (by rw [← E2.out]; exact w64 _ (by omega) (by omega))
  have V3 : Hid (IntKind.i64.wrap ((b : Int) * (td : Int)) = (y : Int)) := Lib.hid (by rw [← E3.out]; exact w64 _ (by omega) (by omega))
  have V4 : Hid (IntKind.i64.wrap ((p1 : Int) + (p2 : Int)) = ((p1 + p2 : Nat) : Int)) := Lib.hid (by rw [← Int.natCast_add]; exact w64 _ (by omega) (by omega))
  generalize p1 + p2 = x at *
  have A0 := Bx2.new (Below.refl w.heap.size w) (.int .i64 a) (.int .i64 b) 24
  have B0 := Bx2.new' A0.old (w.heap.size + 1) (by simp) (.int .i64 c) (.int .i64 d) 24
  have R0 := Bx2.new' B0.old (w.heap.size + 1 + 1) (by simp) (.int .i64 0) (.int .i64 0) 24
  have A1 := (A0.on ((Below.refl _ _).alloc (Nat.le_refl _) (.cells #[.int .i64 c, .int .i64 d] 24))).on ((Below.refl _ _).alloc (Nat.le_refl _) (.cells #[.int .i64 0, .int .i64 0] 24))
  have B1 := B0.on ((Below.refl _ _).alloc (Nat.le_refl _) (.cells #[.int .i64 0, .int .i64 0] 24))
  clear A0 B0 E1 E2 E3
  go_enter Tryz.func14, Tryz.ntmps14
  go_wp2_with fail
  with_reducible refine (HP1.out _).mono ?_
  rintro e w1 ⟨rfl, hb1⟩
  clear HP1
  have A2 := A1.on hb1
  have B2 := B1.on hb1
  have R2 := R0.on hb1
  clear A1 B1 R0 hb1
  have b0 := B2.c0
  have b1 := B2.c1
  go_wp2_with fail
  with_reducible refine (HP2.out _).mono ?_
  rintro e w2 ⟨rfl, hb2⟩
  clear HP2 b0 b1
  have A3 := A2.on hb2
  have B3 := B2.on hb2
  have R3 := R2.on hb2
  clear A2 B2 R2 hb2
  have a1 := A3.c1
  have b1 := B3.c1
  go_wp2_with fail
  with_reducible refine (HD.out _).mono ?_
  rintro e w3 ⟨rfl, hb3⟩
  clear HD a1 b1
  have A4 := A3.on hb3
  have B4 := B3.on hb3
  have R4 := R3.on hb3
  clear A3 B3 R3 hb3
  have a1 := A4.c1
  have b1 := B4.c1
  have hz : ((g : Int) == 0) = false := by simp; omega
  have u1 : ((d : Nat) : Int).tdiv ((g : Nat) : Int) = (td : Int) := HQ1.out
  have u2 : ((b : Nat) : Int).tdiv ((g : Nat) : Int) = (tb : Int) := HQ2.out
  have u3 : IntKind.i64.wrap (td : Int) = (td : Int) := w64 _ (by omega) (by omega)
  have u4 : IntKind.i64.wrap (tb : Int) = (tb : Int) := w64 _ (by omega) (by omega)
  go_wp2
  go_quiet (fail)
  clear a1 b1 u1 u2 u3 u4 hz
  generalize hW : w3.drewN _ = w4 at *
  have hbw : Below w3.heap.size w3 w4 := by rw [← hW]; exact Below.drewN (Below.refl _ _) _
  clear hW
  have A5 := A4.on hbw
  have B5 := B4.on hbw
  have R5 := R4.on hbw
  clear A4 B4 R4 hbw
  have a0 := A5.c0
  have a1 := A5.c1
  have b0 := B5.c0
  have v1 := V1.out
  have v2 := V2.out
  have v3 := V3.out
  have v4 := V4.out
  go_wp2_with fail
  with_reducible refine (HL.out _).mono ?_
  rintro e w5 ⟨rfl, hb5⟩
  clear HL v1 v2 v3 v4 a0 a1 b0 A5 B5
  have R6 := R5.on hb5
  have r0 := R6.c0
  have r1 := R6.c1
  have g0 := R6.f0
  have g1 := R6.f1
  have R7 := R6.set (.int .i64 (r.1 : Nat)) (.int .i64 (r.2 : Nat))
  clear R5 R6 hb5
  go_wp2
  clear r0 r1 g0 g1
  have c0 := R7.c0
  have c1 := R7.c1
  refine bodyPost_ret (v := .agg #[.int .i64 (r.1 : Nat), .int .i64 (r.2 : Nat)]) (by simp [results, Tryz.results14, go_sem, c0, c1]) rfl ⟨rfl, R7.old⟩

end Go.Proofs.YtoejenejleocdabGreatDoor

/- greatest and weight of package guess, of an index that Make has made. -/
namespace Go.Proofs.YtoejenejleocdabGreatDoor
open Go.RowKit
attribute [local irreducible] Bt.pop Bt.popF

theorem greatest_any (E L S : Option Addr) (nE cE N : Nat) (D : Int) (nL cL m cS : Nat) (w : World) (hm : m < 4611686018427387904) :
    Calls Tryz.prog 48 #[.agg #[.slice E nE cE, .int .i64 N, .int .i64 D, .slice L nL cL, .slice S (m + 2) cS]] w fun e w' => e = .returned (.int .i64 (m : Nat)) ∧ Below w.heap.size w w' := by
  have hz : ((m + 2 : Nat) : Int) - 2 = (m : Int) := by omega
  have HZ := Lib.hid hz
  clear hz
  go_enter Tryz.func48, Tryz.ntmps48
  go_wp2
  go_ret
  exact ⟨rfl, (Below.refl _ _).alloc (Nat.le_refl _) _⟩

section
variable {w0 : World} {B : Nat} {E L S : Option Addr} {cE cL cS N M : Nat} {l : List Int} {W : World}
theorem CB.greatest (h : CB w0 B E L S cE cL cS N M l W) : Calls Tryz.prog 48 #[.agg #[.slice E N cE, .int .i64 N, .int .i64 10, .slice L 10 cL, .slice S M cS]] W fun e w' => e = .returned (.int .i64 (En.most l : Nat)) ∧ Below W.heap.size W w' := by
  rw [h.num]
  exact greatest_any E L S N cE N 10 10 cL (En.most l) cS W (by have := h.cmb.fit; omega)
end

set_option maxHeartbeats 1000000 in
theorem weight_any (E L S A : Option Addr) (cE cL cS N M c : Nat) (l s : List Int) (x : Nat) (w : World) (h : Cmb w E L S l) (hN : N = l.length) (hM : M = En.most l + 2) (hE : N ≤ cE) (hL : 10 ≤ cL) (hr : IRow w w.heap.size A (s ++ [((x : Nat) : Int)])) (hcap : s.length + 1 ≤ c) (hs : s.length ≤ 2) :
    Calls Tryz.prog 112 #[.agg #[.slice E N cE, .int .i64 N, .int .i64 10, .slice L 10 cL, .slice S M cS], .slice A (s.length + 1) c] w fun e w' => e = .returned (.int .i64 (Pt.wt l s x : Nat)) ∧ Below w.heap.size w w' := by
  have J : CB w w.heap.size E L S cE cL cS N M l _ := CB.start h hN hM hE hL (Below.refl _ _) 33
  have hrb := hr.on ((Below.refl _ w).alloc (Nat.le_refl _) (.cells #[.slice E N cE, .int .i64 N, .int .i64 10, .slice L 10 cL, .slice S M cS] 33))
  have e1 : (s ++ [((x : Nat) : Int)]).length = s.length + 1 := by simp
  have HC := Lib.hid (count_any E L S A cE cL cS N M c l (s ++ [((x : Nat) : Int)]) _ J.cmb hN hM hE hL hrb (by omega) (by omega))
  have HB := Lib.hid (befores_any E L S A cE cL cS N M c l (s ++ [((x : Nat) : Int)]) _ J.cmb hN hM hE hL hrb (by omega) (by omega))
  rw [e1] at HC HB
  unfold Pt.wt
  have HU := Lib.hid (up_len (En.bfr l (s ++ [((x : Nat) : Int)])))
  have Ho := Lib.hid J.old
  clear h hN hM hr hrb J e1
  generalize (En.plc l (s ++ [((x : Nat) : Int)])).length = m at *
  generalize En.bfr l (s ++ [((x : Nat) : Int)]) = K at *
  by_cases h2 : 2 ≤ s.length
  · have hz : (2 : Int) < ((s.length + 1 : Nat) : Int) := by omega
    rw [if_pos h2]
    generalize s.length + 1 = n at *
    go_enter Tryz.func112, Tryz.ntmps112
    go_wp2_with fail
    with_reducible refine HC.out.mono ?_
    rintro e w1 ⟨rfl, hb1⟩
    clear HC HB
    go_wp2
    go_ret
    exact ⟨rfl, Ho.out.trans (hb1.mono Ho.out.size)⟩
  · have hz : ¬ ((2 : Int) < ((s.length + 1 : Nat) : Int)) := by omega
    rw [if_neg h2]
    generalize s.length + 1 = n at *
    go_enter Tryz.func112, Tryz.ntmps112
    go_wp2_with fail
    with_reducible refine HB.out.mono ?_
    rintro e w1 ⟨X, cx, rfl, _, hb1⟩
    clear HC HB
    rw [HU.out]
    go_wp2
    go_ret
    exact ⟨rfl, Ho.out.trans (hb1.mono Ho.out.size)⟩

end Go.Proofs.YtoejenejleocdabGreatDoor

/- seenBehind of package guess: what each sign weighs behind some signs, what all weigh, and how many unlike ones there are. -/
namespace Go.Proofs.YtoejenejleocdabGreatDoor
open Go.RowKit
attribute [local irreducible] Bt.pop Bt.popF

namespace Pt
/-- the first k of the signs that stand there: what they weigh, all together, how many -/
def pw (l s : List Int) (k x : Nat) : Nat := if x ≠ 0 ∧ x ∈ (En.bhd l s).take k then wt l s x else 0
def pa (l s : List Int) (k : Nat) : Nat := ((((En.bhd l s).take k).filter fun x => x != 0).map (wt l s)).sum
def pu (l s : List Int) (k : Nat) : Nat := (((En.bhd l s).take k).filter fun x => x != 0).length
theorem pw_zero (l s : List Int) (x : Nat) : pw l s 0 x = 0 := by simp [pw]
theorem take_at (K : List Nat) (k : Nat) (h : k < K.length) : K.take (k + 1) = K.take k ++ [K.getD k 0] := by
  rw [List.take_succ_eq_append_getElem h]; simp [h]
theorem p_none (l s : List Int) (k : Nat) (h : k < (En.bhd l s).length) (h0 : (En.bhd l s).getD k 0 = 0) : (∀ x, pw l s (k + 1) x = pw l s k x) ∧ pa l s (k + 1) = pa l s k ∧ pu l s (k + 1) = pu l s k := by
  unfold pw pa pu
  rw [take_at _ k h, h0]
  refine ⟨fun x => ?_, by simp, by simp⟩
  by_cases hx : x = 0
  · simp [hx]
  · simp [hx]
theorem p_some (l s : List Int) (k : Nat) (h : k < (En.bhd l s).length) (x : Nat) (hx : (En.bhd l s).getD k 0 = x) (h0 : x ≠ 0) : (∀ y, pw l s (k + 1) y = if y = x then wt l s x else pw l s k y) ∧ pa l s (k + 1) = pa l s k + wt l s x ∧ pu l s (k + 1) = pu l s k + 1 := by
  unfold pw pa pu
  rw [take_at _ k h, hx]
  refine ⟨fun y => ?_, by simp [h0], by simp [h0]⟩
  by_cases hy : y = x
  · subst hy; simp [h0]
  · simp [hy]
/-- what each sign weighs; Last weighs nothing -/
def wz (l s : List Int) (x : Nat) : Nat := if x = 0 then 0 else wt l s x
theorem pw_end {l : List Int} (h : En.Sg l) (s : List Int) (x : Nat) : pw l s (En.bhd l s).length x = wz l s x := by
  unfold pw wz
  rw [List.take_length]
  by_cases hx : x = 0
  · simp [hx]
  · rw [if_neg hx]
    by_cases hm : x ∈ En.bhd l s
    · rw [if_pos ⟨hx, hm⟩]
    · rw [if_neg (fun hh => hm hh.2)]
      rcases Nat.eq_zero_or_pos (wt l s x) with h0 | h0
      · exact h0.symm
      · exact absurd ((wt_pos h s x).1 h0) hm
theorem pa_end (l s : List Int) : pa l s (En.bhd l s).length = all l s := by unfold pa all sgs; rw [List.take_length]
theorem pu_end (l s : List Int) : pu l s (En.bhd l s).length = unl l s := by unfold pu unl sgs; rw [List.take_length]
theorem bhd_le (l s : List Int) (k : Nat) : (En.bhd l s).getD k 0 ≤ En.most l := by
  have key : ∀ v, v ∈ En.bhd l s → v ≤ En.most l := by
    intro v hv
    unfold En.bhd at hv
    have := List.mem_range.1 (List.mem_filter.1 hv).1
    omega
  by_cases h : k < (En.bhd l s).length
  · refine key _ ?_
    rw [show (En.bhd l s).getD k 0 = (En.bhd l s)[k] from by simp [h]]; exact List.getElem_mem h
  · rw [List.getD_eq_getElem?_getD, List.getElem?_eq_none (by omega)]; simp
theorem sub_sum (g : Nat → Nat) : ∀ (K : List Nat) (k : Nat), (((K.take k).filter fun x => x != 0).map g).sum ≤ ((K.filter fun x => x != 0).map g).sum
  | [], k => by simp
  | x :: K, 0 => by simp
  | x :: K, k + 1 => by
    have := sub_sum g K k
    rw [List.take_succ_cons, List.filter_cons, List.filter_cons]
    split
    · simp only [List.map_cons, List.sum_cons]; omega
    · exact this
theorem pa_le {l : List Int} (h : En.Sg l) (s : List Int) (k : Nat) : pa l s k ≤ l.length := Nat.le_trans (sub_sum (wt l s) _ k) (all_le h s)
theorem bhd_len (l s : List Int) : (En.bhd l s).length ≤ En.most l + 1 := by
  unfold En.bhd
  exact Nat.le_trans (List.length_filter_le _ _) (by simp)
theorem pu_le (l s : List Int) (k : Nat) : pu l s k ≤ En.most l + 1 := by
  have h1 := bhd_len l s
  have h2 : ((En.bhd l s).take k).length ≤ (En.bhd l s).length := by rw [List.length_take]; omega
  have h3 := List.length_filter_le (fun x => x != 0) ((En.bhd l s).take k)
  unfold pu
  omega
theorem wt_len {l : List Int} (h : En.Sg l) (s : List Int) (x : Nat) : wt l s x ≤ l.length :=
  Nat.le_trans (wt_le h s x) (Nat.le_trans (List.length_filter_le _ _) (by simp))
end Pt

/-- the cells of what was seen -/
def bhF (v : Value) (a u : Nat) : Nat → Value := fun j => if j = 0 then v else if j = 1 then .int .i64 a else .int .i64 u

/-- what was seen, in the making: the result's block R, the weights' block G, the block B -/
structure SA (w0 : World) (R G B m a u : Nat) (f : Nat → Nat) (W : World) : Prop where
  res : W.rowIs R 107 3 (bhF (.slice none 0 0) 0 0)
  bx : W.rowIs B 107 3 (bhF (.slice (some ⟨G, 0, none⟩) (m + 1) (m + 1)) a u)
  wts : W.rowIs G 3 (m + 1) (fun x => .int .i64 (f x : Nat))
  old : Below w0.heap.size w0 W
  r1 : w0.heap.size ≤ R
  r2 : R < G
  r3 : G < B
section
variable {w0 : World} {R G B m a u : Nat} {f : Nat → Nat} {W W' : World}
theorem SA.on (h : SA w0 R G B m a u f W) (hb : Below W.heap.size W W') : SA w0 R G B m a u f W' :=
  ⟨h.res.of_block (hb.block _ h.res.lt), h.bx.of_block (hb.block _ h.bx.lt), h.wts.of_block (hb.block _ h.wts.lt), h.old.trans (hb.mono h.old.size), h.r1, h.r2, h.r3⟩
theorem SA.grown {r : Option Nat} (h : SA w0 R G B m a u f W) (hg : W.grownBy W' r) (hr : ∀ k, r = some k → B < k) : SA w0 R G B m a u f W' := by
  have r1 := h.r1
  have r2 := h.r2
  have r3 := h.r3
  have ne : ∀ x, x ≤ B → some x ≠ r := fun x hx he => by have := hr x he.symm; omega
  exact ⟨h.res.of_block (hg.block _ h.res.lt (ne R (by omega))), h.bx.of_block (hg.block _ h.bx.lt (ne B (by omega))), h.wts.of_block (hg.block _ h.wts.lt (ne G (by omega))),
    h.old.grown hg h.old.size (fun k hk => by have := hr k hk; omega), r1, r2, r3⟩
theorem SA.setX (h : SA w0 R G B m a u f W) (X i : Nat) (v : Value) (hX : B < X) : SA w0 R G B m a u f (W.setCell ⟨X, i, none⟩ v) := by
  have r1 := h.r1
  have r2 := h.r2
  have r3 := h.r3
  exact ⟨h.res.setOther (a := ⟨X, i, none⟩) (by show R ≠ X; omega) v, h.bx.setOther (a := ⟨X, i, none⟩) (by show B ≠ X; omega) v, h.wts.setOther (a := ⟨X, i, none⟩) (by show G ≠ X; omega) v, h.old.setCell (p := ⟨X, i, none⟩) (by show _ ≤ X; omega) v, r1, r2, r3⟩
theorem SA.setW (h : SA w0 R G B m a u f W) (x y : Nat) : SA w0 R G B m a u (fun z => if z = x then y else f z) (W.setCell ⟨G, x, none⟩ (.int .i64 y)) := by
  have r1 := h.r1
  have r2 := h.r2
  have r3 := h.r3
  exact ⟨h.res.setOther (a := ⟨G, x, none⟩) (by show R ≠ G; omega) _, h.bx.setOther (a := ⟨G, x, none⟩) (by show B ≠ G; omega) _, (h.wts.set x _).congr (fun i _ => by by_cases e : i = x <;> simp [e]), h.old.setCell (p := ⟨G, x, none⟩) (by show _ ≤ G; omega) _, r1, r2, r3⟩
theorem SA.setA (h : SA w0 R G B m a u f W) (a' : Nat) : SA w0 R G B m a' u f (W.setCell ⟨B, 1, none⟩ (.int .i64 a')) := by
  have r1 := h.r1
  have r2 := h.r2
  have r3 := h.r3
  refine ⟨h.res.setOther (a := ⟨B, 1, none⟩) (by show R ≠ B; omega) _, (h.bx.set 1 _).congr (fun i hi => ?_), h.wts.setOther (a := ⟨B, 1, none⟩) (by show G ≠ B; omega) _, h.old.setCell (p := ⟨B, 1, none⟩) (by show _ ≤ B; omega) _, r1, r2, r3⟩
  match i, hi with
  | 0, _ => rfl
  | 1, _ => rfl
  | 2, _ => rfl
theorem SA.setU (h : SA w0 R G B m a u f W) (u' : Nat) : SA w0 R G B m a u' f (W.setCell ⟨B, 2, none⟩ (.int .i64 u')) := by
  have r1 := h.r1
  have r2 := h.r2
  have r3 := h.r3
  refine ⟨h.res.setOther (a := ⟨B, 2, none⟩) (by show R ≠ B; omega) _, (h.bx.set 2 _).congr (fun i hi => ?_), h.wts.setOther (a := ⟨B, 2, none⟩) (by show G ≠ B; omega) _, h.old.setCell (p := ⟨B, 2, none⟩) (by show _ ≤ B; omega) _, r1, r2, r3⟩
  match i, hi with
  | 0, _ => rfl
  | 1, _ => rfl
  | 2, _ => rfl
theorem SA.b0 (h : SA w0 R G B m a u f W) : W.cell? ⟨B, 0, none⟩ = some (.slice (some ⟨G, 0, none⟩) (m + 1) (m + 1)) := h.bx.cell (i := 0) (by omega)
theorem SA.b1 (h : SA w0 R G B m a u f W) : W.cell? ⟨B, 1, none⟩ = some (.int .i64 a) := h.bx.cell (i := 1) (by omega)
theorem SA.b2 (h : SA w0 R G B m a u f W) : W.cell? ⟨B, 2, none⟩ = some (.int .i64 u) := h.bx.cell (i := 2) (by omega)
theorem SA.congr (h : SA w0 R G B m a u f W) {f' : Nat → Nat} (e : ∀ x, x ≤ m → f x = f' x) : SA w0 R G B m a u f' W :=
  ⟨h.res, h.bx, h.wts.congr (fun i hi => by rw [e i (by omega)]), h.old, h.r1, h.r2, h.r3⟩
end

/-- with the signs and one more behind them (block X), and the signs that stand there -/
structure SB (w0 : World) (R G B m X cap y1 n : Nat) (s : List Int) (q : Int) (K : List Int) (vY : Value) (a u : Nat) (f : Nat → Nat) (W : World) : Prop where
  sa : SA w0 R G B m a u f W
  mo : W.ownsRow (B + 1) 3 1 (.slice (some ⟨X, 0, none⟩) (n + 1) cap) (n + 1) (s.map (Value.int .i64) ++ [.int .i64 q])
  bh : W.ownsRow y1 3 1 vY K.length (K.map (Value.int .i64))
  xy : X < y1
  len : n = s.length
section
variable {w0 : World} {R G B m X cap y1 n : Nat} {s : List Int} {q : Int} {K : List Int} {vY : Value} {a u : Nat} {f : Nat → Nat} {W W' : World}
theorem SB.on (h : SB w0 R G B m X cap y1 n s q K vY a u f W) (hb : Below W.heap.size W W') : SB w0 R G B m X cap y1 n s q K vY a u f W' :=
  ⟨h.sa.on hb, own_below h.mo hb, own_below h.bh hb, h.xy, h.len⟩
theorem SB.bX (h : SB w0 R G B m X cap y1 n s q K vY a u f W) : B < X := by have := (h.mo.lt X rfl).1; omega
theorem SB.row (h : SB w0 R G B m X cap y1 n s q K vY a u f W) : IRow W W.heap.size (some ⟨X, 0, none⟩) (s ++ [q]) := by
  have h1 : W.ownsRow (B + 1) 3 1 (.slice (some ⟨X, 0, none⟩) (n + 1) cap) (n + 1) ((s ++ [q]).map (Value.int .i64)) := by simpa using h.mo
  obtain ⟨h2, h3⟩ := own_row (0 : Int) h1
  rw [h2] at h3
  exact h3
theorem SB.capOk (h : SB w0 R G B m X cap y1 n s q K vY a u f W) : n + 1 ≤ cap := by
  obtain ⟨A, c, e, hc⟩ := own_slice h.mo
  injection e with _ _ e
  omega
theorem SB.last (h : SB w0 R G B m X cap y1 n s q K vY a u f W) : W.cell? ⟨X, n, none⟩ = some (.int .i64 q) := by
  rw [h.mo.cellAt n (by omega), h.len]
  simp
theorem SB.setM (h : SB w0 R G B m X cap y1 n s q K vY a u f W) (x : Int) : SB w0 R G B m X cap y1 n s x K vY a u f (W.setCell ⟨X, n, none⟩ (.int .i64 x)) := by
  have h1 := (h.mo.stored n (.int .i64 x)).1
  have e : (s.map (Value.int .i64) ++ [Value.int .i64 q]).set n (Value.int .i64 x) = s.map (Value.int .i64) ++ [Value.int .i64 x] := by
    rw [h.len]
    have : (s.map (Value.int .i64)).length = s.length := List.length_map _
    rw [List.set_append_right _ _ (by rw [this]; exact Nat.le_refl _), this, Nat.sub_self]
    rfl
  rw [e] at h1
  exact ⟨h.sa.setX X n _ h.bX, h1, ownsRow_setCell_below h.bh (a := ⟨X, n, none⟩) h.xy _, h.xy, h.len⟩
theorem SB.low (h : SB w0 R G B m X cap y1 n s q K vY a u f W) (k i : Nat) (v : Value) (hk : k ≤ B) {a' u' : Nat} {f' : Nat → Nat} (hs : SA w0 R G B m a' u' f' (W.setCell ⟨k, i, none⟩ v)) : SB w0 R G B m X cap y1 n s q K vY a' u' f' (W.setCell ⟨k, i, none⟩ v) :=
  ⟨hs, ownsRow_setCell_below h.mo (a := ⟨k, i, none⟩) (by show k < B + 1; omega) _, ownsRow_setCell_below h.bh (a := ⟨k, i, none⟩) (by have := h.bX; have := h.xy; show k < y1; omega) _, h.xy, h.len⟩
theorem SB.setW (h : SB w0 R G B m X cap y1 n s q K vY a u f W) (x y : Nat) : SB w0 R G B m X cap y1 n s q K vY a u (fun z => if z = x then y else f z) (W.setCell ⟨G, x, none⟩ (.int .i64 y)) := h.low G x _ (by have := h.sa.r3; omega) (h.sa.setW x y)
theorem SB.setA (h : SB w0 R G B m X cap y1 n s q K vY a u f W) (a' : Nat) : SB w0 R G B m X cap y1 n s q K vY a' u f (W.setCell ⟨B, 1, none⟩ (.int .i64 a')) := h.low B 1 _ (Nat.le_refl _) (h.sa.setA a')
theorem SB.setU (h : SB w0 R G B m X cap y1 n s q K vY a u f W) (u' : Nat) : SB w0 R G B m X cap y1 n s q K vY a u' f (W.setCell ⟨B, 2, none⟩ (.int .i64 u')) := h.low B 2 _ (Nat.le_refl _) (h.sa.setU u')
theorem SB.congr (h : SB w0 R G B m X cap y1 n s q K vY a u f W) {f' : Nat → Nat} (e : ∀ x, x ≤ m → f x = f' x) : SB w0 R G B m X cap y1 n s q K vY a u f' W := ⟨h.sa.congr e, h.mo, h.bh, h.xy, h.len⟩
theorem SB.at_ (h : SB w0 R G B m X cap y1 n s q K vY a u f W) (k : Nat) (hk : k < K.length) : ∃ Y c o, vY = .slice (some ⟨Y, o, none⟩) K.length c ∧ W.cell? ⟨Y, o + k, none⟩ = some (.int .i64 (K.getD k 0)) := by
  obtain ⟨A, c, rfl, _⟩ := own_slice h.bh
  obtain ⟨_, hr⟩ := own_row (0 : Int) h.bh
  obtain ⟨b, o, rfl, _, hc⟩ := hr (by omega)
  exact ⟨b, c, o, rfl, hc k hk⟩
end

theorem SA.start {w0 w1 : World} {R m : Nat} (hR : w1.rowIs R 107 3 (bhF (.slice none 0 0) 0 0)) (hb : Below w0.heap.size w0 w1) (hr : w0.heap.size ≤ R) :
    SA w0 R w1.heap.size (w1.heap.size + 1) m 0 0 (fun _ => 0) ((w1.alloc (.cells (madeCells #[.int .i64 0] (m + 1)) 3)).alloc (.cells #[.slice (some ⟨w1.heap.size, 0, none⟩) (m + 1) (m + 1), .int .i64 0, .int .i64 0] 107)) := by
  refine ⟨(hR.alloc _).alloc _, ?_, (World.rowIs_made w1 (.int .i64 0) (m + 1) 3).alloc _, (hb.alloc hb.size _).alloc (by simp; have := hb.size; omega) _, hr, hR.lt, by omega⟩
  have h := World.rowIs_alloc (w1.alloc (.cells (madeCells #[.int .i64 0] (m + 1)) 3)) #[.slice (some ⟨w1.heap.size, 0, none⟩) (m + 1) (m + 1), .int .i64 0, .int .i64 0] 107 (bhF (.slice (some ⟨w1.heap.size, 0, none⟩) (m + 1) (m + 1)) 0 0) (fun i hi => by
    match i, hi with
    | 0, _ => rfl
    | 1, _ => rfl
    | 2, _ => rfl)
  simpa using h

/-- what was seen behind signs: the weights in a block of the call's own -/
def SeenIs (w : World) (l s : List Int) (e : Ending) (w' : World) : Prop :=
  ∃ g, e = .returned (.agg #[.slice (some ⟨g, 0, none⟩) (En.most l + 1) (En.most l + 1), .int .i64 (Pt.all l s : Nat), .int .i64 (Pt.unl l s : Nat)]) ∧ w.heap.size ≤ g ∧ w'.rowIs g 3 (En.most l + 1) (fun x => .int .i64 (Pt.wz l s x : Nat)) ∧ Below w.heap.size w w'

end Go.Proofs.YtoejenejleocdabGreatDoor

/- The walk of seenBehind of package guess. -/
namespace Go.Proofs.YtoejenejleocdabGreatDoor
open Go.RowKit
attribute [local irreducible] Bt.pop Bt.popF

theorem up_getD (K : List Nat) (k : Nat) : (up K).getD k 0 = ((K.getD k 0 : Nat) : Int) := by
  unfold up
  simp only [List.getD_eq_getElem?_getD, List.getElem?_map]
  cases K[k]? <;> rfl

theorem res_set {W : World} {R : Nat} {f : Nat → Value} (h : W.rowIs R 107 3 f) (v : Value) (a u : Nat) : (((W.setCell ⟨R, 0, none⟩ v).setCell ⟨R, 1, none⟩ (.int .i64 a)).setCell ⟨R, 2, none⟩ (.int .i64 u)).rowIs R 107 3 (bhF v a u) :=
  (((h.set 0 v).set 1 _).set 2 _).congr (fun i hi => by
    match i, hi with
    | 0, _ => rfl
    | 1, _ => rfl
    | 2, _ => rfl)

set_option maxRecDepth 100000 in
set_option maxHeartbeats 4000000 in
theorem seenBehind_any (E L S A : Option Addr) (cE cL cS N M c : Nat) (l s : List Int) (w : World) (h : Cmb w E L S l) (hN : N = l.length) (hM : M = En.most l + 2) (hE : N ≤ cE) (hL : 10 ≤ cL) (hr : IRow w w.heap.size A s) (hs : s.length ≤ 2) :
    Calls Tryz.prog 82 #[.agg #[.slice E N cE, .int .i64 N, .int .i64 10, .slice L 10 cL, .slice S M cS], .slice A s.length c] w (SeenIs w l s) := by
  obtain ⟨w0, hw0⟩ : ∃ w0, w0 = w.alloc (.cells #[.slice E N cE, .int .i64 N, .int .i64 10, .slice L 10 cL, .slice S M cS] 33) := ⟨_, rfl⟩
  have hb : Below w.heap.size w w0 := by rw [hw0]; exact (Below.refl _ w).alloc (Nat.le_refl _) _
  have J : CB w w.heap.size E L S cE cL cS N M l w0 := by rw [hw0]; exact CB.start h hN hM hE hL (Below.refl _ _) 33
  have HJ : Hid (∀ W, Below w0.heap.size w0 W → CB w w.heap.size E L S cE cL cS N M l W) := Lib.hid fun W hW => J.on hW
  have HGr : Hid (∀ W, Below w0.heap.size w0 W → Calls Tryz.prog 48 #[.agg #[.slice E N cE, .int .i64 N, .int .i64 10, .slice L 10 cL, .slice S M cS]] W fun e w' => e = .returned (.int .i64 (En.most l : Nat)) ∧ Below W.heap.size W w') := Lib.hid fun W hW => (J.on hW).greatest
  have HC : Hid (∀ W, Below w0.heap.size w0 W → Calls Tryz.prog 94 #[.slice A s.length c] W fun e w' => ∃ v, e = .returned v ∧ w'.ownsRow W.heap.size 3 1 v s.length (s.map (Value.int .i64)) ∧ Below W.heap.size W w') := Lib.hid fun W hW => clone_any A c s W ((hr.on hb).on hW) (by omega)
  have HB : Hid (∀ W, Below w0.heap.size w0 W → Calls Tryz.prog 111 #[.agg #[.slice E N cE, .int .i64 N, .int .i64 10, .slice L 10 cL, .slice S M cS], .slice A s.length c] W (OLs W (up (En.bhd l s)))) := Lib.hid fun W hW => behinds_own E L S A cE cL cS N M c l s W (J.on hW).cmb hN hM hE hL ((hr.on hb).on hW) (by omega)
  have HW : Hid (∀ (R G B m X cap y1 n x : Nat) (K : List Int) (vY : Value) (a u : Nat) (f : Nat → Nat) W, SB w0 R G B m X cap y1 n s (x : Nat) K vY a u f W → Calls Tryz.prog 112 #[.agg #[.slice E N cE, .int .i64 N, .int .i64 10, .slice L 10 cL, .slice S M cS], .slice (some ⟨X, 0, none⟩) (n + 1) cap] W fun e w' => e = .returned (.int .i64 (Pt.wt l s x : Nat)) ∧ SB w0 R G B m X cap y1 n s (x : Nat) K vY a u f w') := Lib.hid fun R G B m X cap y1 n x K vY a u f W hW => by
    have hc := hW.capOk
    have hn := hW.len
    subst hn
    exact (weight_any E L S (some ⟨X, 0, none⟩) cE cL cS N M cap l s x W (J.on hW.sa.old).cmb hN hM hE hL hW.row hc hs).mono fun e w' hh => And.intro hh.1 (hW.on hh.2)
  have hsg := h.sg
  have hmost : En.most l < 1024 := h.fit
  have hlen : l.length ≤ 4096 := h.small
  have P0 : Hid (∀ x, Pt.pw l s 0 x = 0) := Lib.hid (Pt.pw_zero l s)
  have Pn := Lib.hid (Pt.p_none l s)
  have Ps := Lib.hid (Pt.p_some l s)
  have Pe := Lib.hid (Pt.pw_end hsg s)
  have Pae := Lib.hid (Pt.pa_end l s)
  have Pue := Lib.hid (Pt.pu_end l s)
  have Pb := Lib.hid (Pt.bhd_le l s)
  have Pal := Lib.hid (Pt.pa_le hsg s)
  have Pul := Lib.hid (Pt.pu_le l s)
  have Pwl := Lib.hid (Pt.wt_len hsg s)
  have Pbl := Pt.bhd_len l s
  have HUg := Lib.hid (up_getD (En.bhd l s))
  have HUl := Lib.hid (up_len (En.bhd l s))
  have HW0 := Lib.hid hw0
  have Hb := Lib.hid hb
  have Hsz : Hid (w0.heap.size = w.heap.size + 1) := Lib.hid (by rw [hw0]; simp)
  have HMv : Hid (M = En.most l + 2) := Lib.hid hM
  have Hn : Hid (s.length = s.length) := Lib.hid rfl
  have hP0 : Pt.pa l s 0 = 0 := rfl
  have hU0 : Pt.pu l s 0 = 0 := rfl
  have HP0 := Lib.hid hP0
  have HU0 := Lib.hid hU0
  unfold SeenIs
  generalize hm : En.most l = m at *
  have Hm := Lib.hid hm
  have hmk := run_make_row' (P := Tryz.prog) 22 3 (.int .i64 0) 8 Tryz.underlying22 infoInt4 rfl .i64 .i64 (m + 1) (by omega) (by omega)
  rw [show ((m + 1 : Nat) : Int) = (m : Int) + 1 from by omega] at hmk
  generalize hnn : s.length = n at *
  have HNn := Lib.hid hnn
  have hl2 : l.length ≤ 4096 := hlen
  clear h hN hM hr J hb hw0 hm hnn Hn hsg hP0 hU0 hlen
  have hR := World.rowIs_alloc w0 #[.slice none 0 0, .int .i64 0, .int .i64 0] 107 (bhF (.slice none 0 0) 0 0) (fun i hi => by
    match i, hi with
    | 0, _ => rfl
    | 1, _ => rfl
    | 2, _ => rfl)
  have hb1 : Below w0.heap.size w0 (w0.alloc (.cells #[.slice none 0 0, .int .i64 0, .int .i64 0] 107)) := (Below.refl _ _).alloc (Nat.le_refl _) _
  go_enter Tryz.func82, Tryz.ntmps82
  go_wp2_with fail
  rw [← HW0.out]
  with_reducible refine (HGr.out _ hb1).mono ?_
  rintro e w1 ⟨rfl, hb2⟩
  have hR1 := hR.of_block (hb2.block _ (by simp))
  have hb3 := hb1.trans (hb2.mono hb1.size)
  have hsz1 : w0.heap.size + 1 ≤ w1.heap.size := by have := hb2.size; simpa using this
  have hR2 : w1.rowIs (w.heap.size + 1) 107 3 (bhF (.slice none 0 0) 0 0) := by rw [← Hsz.out]; exact hR1
  have J3 := SA.start (m := m) hR2 hb3 (by rw [Hsz.out]; exact Nat.le_refl _)
  have HC3 := Lib.hid (HC.out _ J3.old)
  clear HGr hb2 hb1 hR hR1 hR2 hb3 HC
  go_wp2_with fail
  with_reducible refine HC3.out.mono ?_
  rintro e w4 ⟨v, rfl, h1, h2⟩
  clear HC3 hmk
  have J4 := J3.on h2
  clear J3
  simp only [World.size_alloc] at h1
  obtain ⟨A4, c4, rfl, hcx⟩ := own_slice h1
  have hbs : w1.heap.size + 1 + 1 ≤ w4.heap.size := by have := h2.size; simpa using this
  clear h2
  go_wp2_with (at_builtin; refine wpList_app1 _ rfl _ _ 22 rfl (w1.heap.size + 1 + 1) 3 (.int .i64 0) 8 Tryz.underlying22 infoInt4 rfl _ n _ rfl w4.heap.size (.int .i64 0) rfl (own_below h1 ((Below.refl _ _).alloc (Nat.le_refl _) _)) (new1 _ _ _) (by simp) (by simp [Value.oneCell']) (by unfold maxLen; omega) (by omega) (by simp; omega) ?_; intro v' w5 hown hg _; obtain ⟨X, cap, hv', _, _⟩ := hown.form (by omega); subst hv'; have J5 := (J4.on ((Below.refl _ _).alloc (Nat.le_refl _) (.cells #[.int .i64 0] 3))).grown hg (fun k hk => by have := (h1.lt k hk).1; omega); have c0 := (HJ.out w5 J5.old).c0; have c1 := (HJ.out w5 J5.old).c1; have c2 := (HJ.out w5 J5.old).c2; have c3 := (HJ.out w5 J5.old).c3; have c4' := (HJ.out w5 J5.old).c4; clear hg h1 hcx hbs J4)
  generalize hB : w1.heap.size + 1 = B at *
  generalize hG : w1.heap.size = G at *
  clear hB hG
  generalize hR : w.heap.size + 1 = R at *
  clear hR
  with_reducible refine (HB.out w5 J5.old).mono ?_
  rintro e w6 ⟨vY, rfl, hO⟩
  have hXy := (hown.lt X rfl).2
  have JB : SB w0 R G B m X cap w5.heap.size n s 0 (up (En.bhd l s)) vY 0 0 (fun _ => 0) w6 := ⟨J5.on hO.old, own_below hown hO.old, hO.own, hXy, HNn.out.symm⟩
  clear HB J5 hown hO c0 c1 c2 c3 c4' hXy
  generalize w5.heap.size = y1 at *
  obtain ⟨Y, cy, rfl, _⟩ := own_slice JB.bh
  rw [HUl.out] at JB ⊢
  generalize hk0 : (En.bhd l s).length = kk at *
  have HK0 := Lib.hid hk0
  clear hk0
  go_wp2
  go_loopw [22] (fun t W => ∃ (k : Nat) (q : Int), k ≤ kk ∧ t = .int .i64 k ∧ SB w0 R G B m X cap y1 n s q (up (En.bhd l s)) (.slice Y kk cy) (Pt.pa l s k) (Pt.pu l s k) (Pt.pw l s k) W) (fun t _ => kk - (intOf t).toNat)
  case atStart => exact ⟨0, 0, Nat.zero_le _, rfl, by rw [HP0.out, HU0.out]; exact JB.congr (fun x _ => (P0.out x).symm)⟩
  case round =>
    obtain ⟨k, q, hk, rfl, J⟩ := hrel
    clear JB P0 HP0 HU0
    by_cases hlt : k < kk
    · have hlz : (k : Int) < (kk : Int) := by omega
      obtain ⟨bY, cY, oY, hY, d1⟩ := J.at_ k (by rw [HUl.out]; exact hlt)
      injection hY with hY hY2 hY3
      clear hY2 hY3
      subst hY
      rw [HUg.out] at d1
      have hxm := Pb.out k
      have HP := Lib.hid (Pn.out k hlt)
      have HS := Lib.hid (Ps.out k hlt)
      have hal := Pal.out k
      have hul := Pul.out k
      generalize (En.bhd l s).getD k 0 = x at *
      by_cases hx0 : x = 0
      · subst hx0
        obtain ⟨p1, p2, p3⟩ := HP.out rfl
        have J' : SB w0 R G B m X cap y1 n s q (up (En.bhd l s)) (.slice (some ⟨bY, oY, none⟩) kk cy) (Pt.pa l s (k + 1)) (Pt.pu l s (k + 1)) (Pt.pw l s (k + 1)) wr := by
          rw [p2, p3]; exact J.congr (fun x _ => (p1 x).symm)
        have HJ' := Lib.hid J'
        clear p1 p2 p3 J' J HP HS HW HJ Pn Ps Pe Pae Pue Pb Pal Pul Pwl HUg HUl
        go_wp2
        go_roundw
        case rel => exact ⟨k + 1, q, by omega, by go_num, HJ'.out⟩
        case measure => simp [intOf]; omega
      · obtain ⟨p1, p2, p3⟩ := HS.out x rfl hx0
        have Q1 := Lib.hid p1
        have Q2 := Lib.hid p2
        have Q3 := Lib.hid p3
        have hwl := Pwl.out x
        have hz0 : ((x : Int) == 0) = false := by simp; omega
        have HWx := Lib.hid (HW.out R G B m X cap y1 n x (up (En.bhd l s)) (.slice (some ⟨bY, oY, none⟩) kk cy) (Pt.pa l s k) (Pt.pu l s k) (Pt.pw l s k))
        clear p1 p2 p3 HP HS HW Pn Ps Pe Pae Pue Pb Pal Pul Pwl HUg HUl
        have cl := J.last
        have fl := J.mo.frozenAt n
        have J2 := J.setM (x : Int)
        have hcap := J.capOk
        clear J
        go_upto_region 8 with fail
        clear cl fl
        have C2 := HJ.out _ J2.sa.old
        have hb0 := J2.sa.b0
        have J3 := J2.on (Below.refl _ _).drew
        have hxz : (x : Int) < (m : Int) + 1 := by omega
        have hxz2 : x < m + 1 := by omega
        generalize wr.setCell ⟨X, n, none⟩ (.int .i64 x) = V at *
        refine wp_region_takes 6 [0, 1, 2, 3, 4] [5] (fun w' => w'.cell? ⟨B, 0, none⟩ = some (.slice (some ⟨G, 0, none⟩) (m + 1) (m + 1)) ∧ w'.cell? ⟨w.heap.size, 0, none⟩ = some (.slice E N cE) ∧ w'.cell? ⟨w.heap.size, 1, none⟩ = some (.int .i64 N) ∧ w'.cell? ⟨w.heap.size, 2, none⟩ = some (.int .i64 10) ∧ w'.cell? ⟨w.heap.size, 3, none⟩ = some (.slice L 10 cL) ∧ w'.cell? ⟨w.heap.size, 4, none⟩ = some (.slice S M cS)) (by kernel_rfl) (by kernel_rfl) ⟨hb0, C2.c0, C2.c1, C2.c2, C2.c3, C2.c4⟩ ?_
        refine wpTakes_cons (v := ?_) _ at0 rfl ?_ ?_ ?_
        rotate_left 1
        · rintro W ⟨x0, x1, x2, x3, x4, x5⟩
          go_simp
          rfl
        · exact fun _ _ _ h => h
        simp only [Act.put, List.setIfInBounds_toArray, List.set_cons_zero, List.set_cons_succ]
        refine wpTakes_cons (v := ?_) _ at1 rfl ?_ ?_ ?_
        rotate_left 1
        · rintro W ⟨x0, x1, x2, x3, x4, x5⟩
          go_simp
          rfl
        · exact fun _ _ _ h => h
        simp only [Act.put, List.setIfInBounds_toArray, List.set_cons_zero, List.set_cons_succ]
        refine wpTakes_cons (v := ?_) _ at2 rfl ?_ ?_ ?_
        rotate_left 1
        · rintro W ⟨x0, x1, x2, x3, x4, x5⟩
          go_simp
          rfl
        · exact fun _ _ _ h => h
        simp only [Act.put, List.setIfInBounds_toArray, List.set_cons_zero, List.set_cons_succ]
        refine wpTakes_cons (v := ?_) _ at3 rfl ?_ ?_ ?_
        rotate_left 1
        · rintro W ⟨x0, x1, x2, x3, x4, x5⟩
          go_simp
          rfl
        · exact fun _ _ _ h => h
        simp only [Act.put, List.setIfInBounds_toArray, List.set_cons_zero, List.set_cons_succ]
        refine wpTakes_cons (v := ?_) _ at4 rfl ?_ ?_ ?_
        rotate_left 1
        · rintro W ⟨x0, x1, x2, x3, x4, x5⟩
          go_simp
          rfl
        · exact fun _ _ _ h => h
        simp only [Act.put, List.setIfInBounds_toArray, List.set_cons_zero, List.set_cons_succ]
        refine wpTakes_nil (wpCalls_cons _ at5 rfl fun K' hK' => ?_)
        go_simp
        go_at_call 112
        refine (HWx.out _ J3).mono ?_
        rintro e w7 ⟨rfl, J4⟩
        have C4 := HJ.out _ J4.sa.old
        refine hK'.out _ _ ⟨J4.sa.b0, C4.c0, C4.c1, C4.c2, C4.c3, C4.c4⟩ (wpCalls_nil ?_)
        clear hK' J3 J2 C2 hb0 C4 HWx
        simp only [List.drop_succ_cons, List.drop_zero]
        have e0 : w7.cell? ⟨G, x, none⟩ = some (.int .i64 (Pt.pw l s k x : Nat)) := J4.sa.wts.cell (by omega)
        have f0 := J4.sa.wts.frozen x
        have J5 := J4.setW x (Pt.wt l s x)
        clear J4
        have HF : Hid (∀ z, z ≤ m → (if z = x then Pt.wt l s x else Pt.pw l s k z) = Pt.pw l s (k + 1) z) := Lib.hid fun z _ => (Q1.out z).symm
        generalize Pt.wt l s x = y at *
        generalize Pt.pa l s k = a0 at *
        generalize Pt.pu l s k = u0 at *
        go_wp2
        clear e0 f0
        have J6 := J5.setA (a0 + y)
        rw [Int.natCast_add] at J6
        have b0 := J5.sa.b0
        have b1 := J5.sa.b1
        have e1 : (w7.setCell ⟨G, x, none⟩ (.int .i64 y)).cell? ⟨G, x, none⟩ = some (.int .i64 y) := by
          have := J5.sa.wts.cell (i := x) (by omega)
          simpa using this
        have f1 := J5.sa.bx.frozen 1
        clear J5
        generalize w7.setCell ⟨G, x, none⟩ (.int .i64 y) = V7 at *
        go_region
        all_goals
          clear b0 b1 e1 f1
          have J7 := J6.on (Below.refl _ _).drew
          have J8 := J7.setU (u0 + 1)
          rw [Int.natCast_add] at J8
          have b2 := J7.sa.b2
          have f2 := J7.sa.bx.frozen 2
          go_wp2
          clear b2 f2
          go_roundw
          case rel => exact ⟨k + 1, x, by omega, by go_num, by rw [Q2.out, Q3.out]; exact J8.congr HF.out⟩
          case measure => simp [intOf]; omega
    · obtain rfl : k = kk := by omega
      have J' : SB w0 R G B m X cap y1 n s q (up (En.bhd l s)) (.slice Y k cy) (Pt.all l s) (Pt.unl l s) (Pt.wz l s) wr := by
        rw [← Pae.out, ← Pue.out]; exact J.congr (fun x _ => Pe.out x)
      clear J HW HJ Pn Ps Pe Pae Pue Pb Pal Pul Pwl HUg HUl
      have b0 := J'.sa.b0
      have b1 := J'.sa.b1
      have b2 := J'.sa.b2
      have r0 := J'.sa.res.cell (i := 0) (by omega)
      have r1 := J'.sa.res.cell (i := 1) (by omega)
      have r2 := J'.sa.res.cell (i := 2) (by omega)
      have g0 := J'.sa.res.frozen 0
      have g1 := J'.sa.res.frozen 1
      have g2 := J'.sa.res.frozen 2
      have hold := J'.sa.old
      have hwts := J'.sa.wts
      have q1 := J'.sa.r1
      have q2 := J'.sa.r2
      have hrr := J'.sa.res
      clear J'
      have HE := Lib.hid (res_set hrr (.slice (some ⟨G, 0, none⟩) (m + 1) (m + 1)) (Pt.all l s) (Pt.unl l s))
      clear hrr
      go_wp2
      clear b0 b1 b2 r0 r1 r2 g0 g1 g2
      have k0 := HE.out.cell (i := 0) (by omega)
      have k1 := HE.out.cell (i := 1) (by omega)
      have k2 := HE.out.cell (i := 2) (by omega)
      refine bodyPost_ret (v := .agg #[.slice (some ⟨G, 0, none⟩) (m + 1) (m + 1), .int .i64 (Pt.all l s : Nat), .int .i64 (Pt.unl l s : Nat)]) (by simp [results, Tryz.results82, go_sem, k0, k1, k2, bhF]) rfl ⟨G, rfl, by have := Hb.out.size; omega, ?_, ?_⟩
      · exact ((hwts.setOther (a := ⟨R, 0, none⟩) (by show G ≠ R; omega) _).setOther (a := ⟨R, 1, none⟩) (by show G ≠ R; omega) _).setOther (a := ⟨R, 2, none⟩) (by show G ≠ R; omega) _
      · have h9 := ((hold.setCell (p := ⟨R, 0, none⟩) q1 (.slice (some ⟨G, 0, none⟩) (m + 1) (m + 1))).setCell (p := ⟨R, 1, none⟩) q1 (.int .i64 (Pt.all l s : Nat))).setCell (p := ⟨R, 2, none⟩) q1 (.int .i64 (Pt.unl l s : Nat))
        exact Hb.out.trans (h9.mono Hb.out.size)

end Go.Proofs.YtoejenejleocdabGreatDoor

/- Words for memory: a row of what was seen, the shortest first, in the making; a slice from a place on. -/
namespace Go.Proofs.YtoejenejleocdabGreatDoor
open Go.RowKit
attribute [local irreducible] Bt.pop Bt.popF

/-- a slice from a place on -/
def subA (A : Option Addr) (c k : Nat) : Option Addr := if c = k then A else A.map (·.add k)
theorem run_sub (A : Option Addr) (n c k : Nat) (hk : k ≤ n) (hc : n ≤ c) (W : World) : ((Instr.sliceAt 22 (.slice A n c) (some (.int .i64 k)) none none).run Tryz.prog W).andThen (fun v w => .ok (Next.value v) w) = .ok (Next.value (.slice (subA A c k) (n - k) (c - k))) W := by
  obtain ⟨i, hi, hzz⟩ := Option.map_eq_some_iff.1 infoInt4
  simp only [Prod.mk.injEq] at hzz
  obtain ⟨_, hsz, _⟩ := hzz
  by_cases h0 : c = k
  · subst h0
    obtain rfl : n = c := by omega
    simp [Instr.sliceAt, Instr.slice, Instr.sliceBounds, Instr.sliceBound, run_underlying Tryz.underlying22, sizeOf, typeInfo, hi, asIntOf, subA]
  · simp [Instr.sliceAt, Instr.slice, Instr.sliceBounds, Instr.sliceBound, run_underlying Tryz.underlying22, sizeOf, typeInfo, hi, asIntOf, subA, h0, hsz, hk]
theorem irow_sub {W : World} {B : Nat} {A : Option Addr} {s : List Int} (h : IRow W B A s) (c k : Nat) (hc : s.length ≤ c) : IRow W B (subA A c k) (s.drop k) := by
  intro hn
  rw [List.length_drop] at hn
  obtain ⟨b, o, rfl, hb, hcell⟩ := h (by omega)
  refine ⟨b, o + k, ?_, hb, fun i hi => ?_⟩
  · unfold subA
    rw [if_neg (by omega)]
    by_cases h0 : k = 0
    · subst h0; rfl
    · simp [Addr.add, h0]
  · rw [List.length_drop] at hi
    rw [Nat.add_assoc, hcell (k + i) (by omega)]
    simp [List.getD_eq_getElem?_getD, List.getElem?_drop]

/-- what the cells of the j-th tell -/
def SeX (l s : List Int) (j : Nat) (v : Value) (xs : List Value) (W : World) : Prop :=
  ∃ g, xs[j * 3]? = some (.slice (some ⟨g, 0, none⟩) (En.most l + 1) (En.most l + 1)) ∧ xs[j * 3 + 1]? = some (.int .i64 (Pt.all l (s.drop (s.length - j)) : Nat)) ∧ xs[j * 3 + 2]? = some (.int .i64 (Pt.unl l (s.drop (s.length - j)) : Nat)) ∧
    W.rowIs g 3 (En.most l + 1) (fun x => .int .i64 (Pt.wz l (s.drop (s.length - j)) x : Nat)) ∧ some g ≠ v.ownBlock ∧ 0 < Pt.unl l (s.drop (s.length - j))
/-- k of them in the making -/
structure SeO (base : Nat) (l s : List Int) (k : Nat) (v : Value) (xs : List Value) (W : World) : Prop where
  own : W.ownsRow base 107 3 v k xs
  each : ∀ j, j < k → SeX l s j v xs W
theorem SeO.nil (base : Nat) (l s : List Int) (W : World) : SeO base l s 0 (.slice none 0 0) [] W := ⟨World.ownsRow_nil _ _ _ _, fun j hj => absurd hj (by omega)⟩
theorem SeO.on {base : Nat} {l s : List Int} {k : Nat} {v : Value} {xs : List Value} {W W' : World} (h : SeO base l s k v xs W) (hb : Below W.heap.size W W') : SeO base l s k v xs W' :=
  ⟨own_below' h.own hb, fun j hj => by
    obtain ⟨g, h1, h2, h3, h4, h5⟩ := h.each j hj
    exact ⟨g, h1, h2, h3, h4.of_block (hb.block _ h4.lt), h5⟩⟩
theorem SeO.app {base : Nat} {l s : List Int} {k : Nat} {v v' : Value} {xs : List Value} {W W' : World} (h : SeO base l s k v xs W) (g : Nat)
    (hI : W.rowIs g 3 (En.most l + 1) (fun x => .int .i64 (Pt.wz l (s.drop (s.length - k)) x : Nat))) (n1 : some g ≠ v.ownBlock) (hu : 0 < Pt.unl l (s.drop (s.length - k)))
    (hg : W.grownBy W' v.ownBlock) (hv : v'.ownBlock = v.ownBlock ∨ v'.ownBlock = some W.heap.size)
    (hnew : W'.ownsRow base 107 3 v' (k + 1) (xs ++ [.slice (some ⟨g, 0, none⟩) (En.most l + 1) (En.most l + 1), .int .i64 (Pt.all l (s.drop (s.length - k)) : Nat), .int .i64 (Pt.unl l (s.drop (s.length - k)) : Nat)])) :
    SeO base l s (k + 1) v' (xs ++ [.slice (some ⟨g, 0, none⟩) (En.most l + 1) (En.most l + 1), .int .i64 (Pt.all l (s.drop (s.length - k)) : Nat), .int .i64 (Pt.unl l (s.drop (s.length - k)) : Nat)]) W' := by
  have hlen : xs.length = k * 3 := h.own.1
  have hne' : ∀ x, x < W.heap.size → some x ≠ v.ownBlock → some x ≠ v'.ownBlock := fun x hlt hne he => by
    rcases hv with hv | hv
    · exact hne (by rw [he, hv])
    · rw [hv] at he; injection he with he; omega
  refine ⟨hnew, fun j hj => ?_⟩
  by_cases hjk : j < k
  · obtain ⟨a, q1, q2, q3, q4, q5, q6⟩ := h.each j hjk
    refine ⟨a, ?_, ?_, ?_, q4.of_block (hg.block a q4.lt q5), hne' a q4.lt q5, q6⟩
    · rw [List.getElem?_append_left (by omega)]; exact q1
    · rw [List.getElem?_append_left (by omega)]; exact q2
    · rw [List.getElem?_append_left (by omega)]; exact q3
  · obtain rfl : j = k := by omega
    refine ⟨g, ?_, ?_, ?_, hI.of_block (hg.block g hI.lt n1), hne' g hI.lt n1, hu⟩
    · rw [List.getElem?_append_right (by omega), hlen, Nat.sub_self]; rfl
    · rw [List.getElem?_append_right (by omega), hlen, show j * 3 + 1 - j * 3 = 1 from by omega]; rfl
    · rw [List.getElem?_append_right (by omega), hlen, show j * 3 + 2 - j * 3 = 2 from by omega]; rfl

/-- k of them in a row -/
structure Seen (W : World) (A : Option Addr) (l s : List Int) (k : Nat) : Prop where
  le : k ≤ s.length + 1
  stop : k = s.length + 1 ∨ Pt.unl l (s.drop (s.length - k)) = 0
  row : 0 < k → ∃ b o, A = some ⟨b, o, none⟩ ∧ b < W.heap.size ∧ ∀ j, j < k → ∃ g, W.cell? ⟨b, o + j * 3, none⟩ = some (.slice (some ⟨g, 0, none⟩) (En.most l + 1) (En.most l + 1)) ∧ W.cell? ⟨b, o + j * 3 + 1, none⟩ = some (.int .i64 (Pt.all l (s.drop (s.length - j)) : Nat)) ∧
    W.cell? ⟨b, o + j * 3 + 2, none⟩ = some (.int .i64 (Pt.unl l (s.drop (s.length - j)) : Nat)) ∧ W.rowIs g 3 (En.most l + 1) (fun x => .int .i64 (Pt.wz l (s.drop (s.length - j)) x : Nat)) ∧ 0 < Pt.unl l (s.drop (s.length - j))
theorem Seen.on {W W' : World} {A : Option Addr} {l s : List Int} {k : Nat} (h : Seen W A l s k) (hb : Below W.heap.size W W') : Seen W' A l s k :=
  ⟨h.le, h.stop, fun hk => by
    obtain ⟨b, o, e, hlt, hc⟩ := h.row hk
    refine ⟨b, o, e, Nat.lt_of_lt_of_le hlt hb.size, fun j hj => ?_⟩
    obtain ⟨g, h1, h2, h3, h4, h5⟩ := hc j hj
    exact ⟨g, (hb.cell (p := ⟨b, o + j * 3, none⟩) hlt).trans h1, (hb.cell (p := ⟨b, o + j * 3 + 1, none⟩) hlt).trans h2, (hb.cell (p := ⟨b, o + j * 3 + 2, none⟩) hlt).trans h3, h4.of_block (hb.block _ h4.lt), h5⟩⟩
theorem SeO.seen {base : Nat} {l s : List Int} {k : Nat} {A : Option Addr} {n c : Nat} {xs : List Value} {W : World} (h : SeO base l s k (.slice A n c) xs W) (hk : k ≤ s.length + 1) (hs : k = s.length + 1 ∨ Pt.unl l (s.drop (s.length - k)) = 0) : n = k ∧ Seen W A l s k := by
  rcases h.own.2 with ⟨e, h0⟩ | ⟨g, cap, cur, e, _, hgc, hcap, _⟩
  · injection e with e1 e2 e3
    exact ⟨by omega, hk, hs, fun h => absurd h (by omega)⟩
  · injection e with e1 e2 e3
    subst e1 e2 e3
    have hlt : g < W.heap.size := by
      rcases Nat.lt_or_ge g W.heap.size with h' | h'
      · exact h'
      · rw [Array.getElem?_eq_none h'] at hgc; cases hgc
    refine ⟨rfl, hk, hs, fun _ => ⟨g, 0, rfl, hlt, fun j hj => ?_⟩⟩
    obtain ⟨a, q1, q2, q3, q4, _, q6⟩ := h.each j hj
    refine ⟨a, ?_, ?_, ?_, q4, q6⟩
    · rw [Nat.zero_add, h.own.cellAt _ (by omega)]; exact q1
    · rw [Nat.zero_add, h.own.cellAt _ (by omega)]; exact q2
    · rw [Nat.zero_add, h.own.cellAt _ (by omega)]; exact q3
/-- what seenBehindLast hands back -/
def SeenL (w : World) (l s : List Int) (e : Ending) (w' : World) : Prop := ∃ A k c, e = .returned (.slice A k c) ∧ Seen w' A l s k ∧ Below w.heap.size w w'

end Go.Proofs.YtoejenejleocdabGreatDoor
