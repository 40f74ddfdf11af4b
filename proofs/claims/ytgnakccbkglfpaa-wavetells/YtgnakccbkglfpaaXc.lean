/- Good of what is no wave; spoilt. -/
import Derived.Test.YtgnakccbkglfpaaWy
import Derived.BigRegion
namespace Go.Proofs.Ytgnakccbkglfpaa
open Go.RowKit
attribute [local irreducible] Bt.pop Bt.popF

set_option maxHeartbeats 1000000 in
theorem good_no (N D : Int) (A : Option Addr) (n c : Nat) (f : Nat → Int) (a1 a2 : Nat → Option Addr) (m1 k1 m2 k2 : Nat → Nat) (w : World)
    (hr : Row3 w w.heap.size A n (fun k => .int .i64 (f k)) (fun k => .slice (a1 k) (m1 k) (k1 k)) (fun k => .slice (a2 k) (m2 k) (k2 k))) (hn : n < 4611686018427387904) (h : shapeOk D n N f = false) :
    Calls Try.prog 40 #[.agg #[.int .i64 N, .int .i64 D, .slice A n c]] w fun e w' => e = .returned (.bool false) ∧ Below w.heap.size w w' := by
  have hb0 : Below w.heap.size w (w.alloc (.cells #[.int .i64 N, .int .i64 D, .slice A n c] 45)) := (Below.refl _ _).alloc (Nat.le_refl _) _
  have HS := Lib.hid (isShaped_any N D A n c f a1 a2 m1 k1 m2 k2 _ (hr.on hb0) hn)
  rw [h] at HS
  clear hr h
  go_enter Try.func40, Try.ntmps40
  go_wp2_with fail
  with_reducible refine HS.out.mono ?_
  rintro e w1 ⟨rfl, hb1⟩
  have hb2 := hb0.trans (hb1.mono (by simp))
  clear HS
  go_wp2
  go_ret
  exact ⟨rfl, hb2⟩

theorem Row3.less {w : World} {B : Nat} {A : Option Addr} {n m : Nat} {x y z : Nat → Value} (h : Row3 w B A n x y z) (hm : m ≤ n) : Row3 w B A m x y z := by
  intro h0
  obtain ⟨b, o, e, hb, hc⟩ := h (by omega)
  exact ⟨b, o, e, hb, fun k hk => hc k (by omega)⟩

/-- three waves that are spoilt are none -/
theorem spoilt1 {w : World} {A : Option Addr} {d : Nat} {l : List Nat} (h : Wave w A d l) (c : Nat) : Calls Try.prog 40 #[.agg #[.int .i64 ((l.length : Int) + 1), .int .i64 d, .slice A d c]] w fun e w' => e = .returned (.bool false) ∧ Below w.heap.size w w' := by
  obtain ⟨a1, a2, k1, k2, hr, _⟩ := h.rows
  have h1 := h.d1
  have h2 := h.d16
  refine good_no _ _ A d c (fun _ => l.length) a1 a2 (fun _ => l.length / 64 + 1) k1 (fun _ => l.length / 64 + 1) k2 w hr (by omega) ?_
  unfold shapeOk
  rw [anyQ_true _ d 0 (by omega) (by simp; omega)]
  simp
theorem spoilt2 {w : World} {A : Option Addr} {d : Nat} {l : List Nat} (h : Wave w A d l) (c : Nat) : Calls Try.prog 40 #[.agg #[.int .i64 l.length, .int .i64 d, .slice A (d - 1) c]] w fun e w' => e = .returned (.bool false) ∧ Below w.heap.size w w' := by
  obtain ⟨a1, a2, k1, k2, hr, _⟩ := h.rows
  have h1 := h.d1
  have h2 := h.d16
  refine good_no _ _ A (d - 1) c (fun _ => l.length) a1 a2 (fun _ => l.length / 64 + 1) k1 (fun _ => l.length / 64 + 1) k2 w (hr.less (by omega)) (by omega) ?_
  unfold shapeOk
  rw [show decide (((d - 1 : Nat) : Int) = (d : Int)) = false by simp; omega]
  simp
theorem spoilt3 {w : World} {A : Option Addr} {d : Nat} {l : List Nat} (h : Wave w A d l) (c : Nat) : Calls Try.prog 40 #[.agg #[.int .i64 l.length, .int .i64 ((d : Int) + 1), .slice A d c]] w fun e w' => e = .returned (.bool false) ∧ Below w.heap.size w w' := by
  obtain ⟨a1, a2, k1, k2, hr, _⟩ := h.rows
  have h1 := h.d1
  have h2 := h.d16
  refine good_no _ _ A d c (fun _ => l.length) a1 a2 (fun _ => l.length / 64 + 1) k1 (fun _ => l.length / 64 + 1) k2 w hr (by omega) ?_
  unfold shapeOk
  rw [show decide ((d : Int) = (d : Int) + 1) = false from decide_eq_false (by omega)]
  simp

/-- three copies of a wave in three blocks -/
structure SP (w : World) (b3 b4 b5 : Nat) (N d : Int) (v : Value) (W : World) : Prop where
  c3 : W.rowIs b3 45 3 (wvF N d v)
  c4 : W.rowIs b4 45 3 (wvF N d v)
  c5 : W.rowIs b5 45 3 (wvF N d v)
  n34 : b3 ≠ b4
  n35 : b3 ≠ b5
  n45 : b4 ≠ b5
  g3 : w.heap.size < b3
  g4 : w.heap.size < b4
  g5 : w.heap.size < b5
  box : W.cell? ⟨w.heap.size, 2, none⟩ = some v
  old : Below w.heap.size w W

theorem four_rows (w : World) (N d : Int) (v : Value) : ∀ W : World, W = ((((w.alloc (.cells #[.int .i64 N, .int .i64 d, v] 45)).alloc (.cells #[.int .i64 N, .int .i64 d, v] 45)).alloc (.cells #[.int .i64 N, .int .i64 d, v] 45)).alloc (.cells #[.int .i64 N, .int .i64 d, v] 45)).drew →
    W.rowIs (w.heap.size + 1) 45 3 (wvF N d v) ∧ W.rowIs (w.heap.size + 1 + 1) 45 3 (wvF N d v) ∧ W.rowIs (w.heap.size + 1 + 1 + 1) 45 3 (wvF N d v) ∧ W.cell? ⟨w.heap.size, 2, none⟩ = some v ∧ Below w.heap.size w W := by
  rintro W rfl
  have r1 := wvF_alloc w N d v
  have b1 : Below w.heap.size w (w.alloc (.cells #[.int .i64 N, .int .i64 d, v] 45)) := (Below.refl _ _).alloc (Nat.le_refl _) _
  have s1 : (w.alloc (.cells #[.int .i64 N, .int .i64 d, v] 45)).heap.size = w.heap.size + 1 := by simp
  generalize w.alloc (.cells #[.int .i64 N, .int .i64 d, v] 45) = v1 at *
  have r2 := wvF_alloc v1 N d v
  have q1 := r1.alloc (.cells #[.int .i64 N, .int .i64 d, v] 45)
  have b2 := b1.alloc b1.size (.cells #[.int .i64 N, .int .i64 d, v] 45)
  have s2 : (v1.alloc (.cells #[.int .i64 N, .int .i64 d, v] 45)).heap.size = w.heap.size + 1 + 1 := by simp [s1]
  generalize v1.alloc (.cells #[.int .i64 N, .int .i64 d, v] 45) = v2 at *
  have r3 := wvF_alloc v2 N d v
  have q2 := r2.alloc (.cells #[.int .i64 N, .int .i64 d, v] 45)
  have p1 := q1.alloc (.cells #[.int .i64 N, .int .i64 d, v] 45)
  have b3 := b2.alloc b2.size (.cells #[.int .i64 N, .int .i64 d, v] 45)
  have s3 : (v2.alloc (.cells #[.int .i64 N, .int .i64 d, v] 45)).heap.size = w.heap.size + 1 + 1 + 1 := by simp [s2]
  generalize v2.alloc (.cells #[.int .i64 N, .int .i64 d, v] 45) = v3 at *
  have r4 := wvF_alloc v3 N d v
  have q3 := r3.alloc (.cells #[.int .i64 N, .int .i64 d, v] 45)
  have p2 := q2.alloc (.cells #[.int .i64 N, .int .i64 d, v] 45)
  have o1 := p1.alloc (.cells #[.int .i64 N, .int .i64 d, v] 45)
  have b4 := b3.alloc b3.size (.cells #[.int .i64 N, .int .i64 d, v] 45)
  rw [s1] at p2
  rw [s2] at q3
  rw [s3] at r4
  exact ⟨p2.drew, q3.drew, r4.drew, o1.drew.cell (i := 2) (by omega), b4.drew⟩

set_option maxHeartbeats 2000000 in
theorem spoilt_any {w : World} {A : Option Addr} {d : Nat} {l : List Nat} (h : Wave w A d l) (c : Nat) (hc : d ≤ c) :
    Calls Try.prog 37 #[.agg #[.int .i64 l.length, .int .i64 d, .slice A d c]] w fun e w' => e = .returned (.bool true) ∧ Below w.heap.size w w' := by
  have h1 := h.d1
  have h16 := h.d16
  have hsm := h.small
  have HW := Lib.hid h
  clear h
  generalize hN : l.length = N at *
  have HN := Lib.hid hN
  clear hN
  go_enter Try.func37, Try.ntmps37
  go_upto_region 1 with fail
  go_cut [3, 4, 5] (fun s3 s4 s5 W => ∃ b3 b4 b5, s3 = .pointer (some ⟨b3, 0, none⟩) ∧ s4 = .pointer (some ⟨b4, 0, none⟩) ∧ s5 = .pointer (some ⟨b5, 0, none⟩) ∧ SP w b3 b4 b5 N d (.slice A d c) W)
  case first =>
    go_wp2_with fail
    have H4 := Lib.hid (four_rows w N d (.slice A d c))
    go_region
    all_goals
      obtain ⟨r1, r2, r3, r4, r5⟩ := H4.out _ rfl
      go_wp2_with fail
      go_meet
      exact ⟨_, _, _, rfl, rfl, rfl, ⟨by assumption, by assumption, by assumption, by omega, by omega, by omega, by omega, by omega, by omega, r4, r5⟩⟩
  case rest =>
  obtain ⟨b3, b4, b5, rfl, rfl, rfl, J⟩ := hcut
  have a0 : wc.cell? ⟨b3, 0, none⟩ = some (.int .i64 N) := J.c3.cell (i := 0) (by omega)
  have fa := J.c3.frozen 0
  have hbx := J.box
  obtain ⟨V1, hV1⟩ : ∃ V1, V1 = wc.setCell ⟨b3, 0, none⟩ (.int .i64 ((N : Int) + 1)) := ⟨_, rfl⟩
  have x3 : V1.rowIs b3 45 3 (wvF ((N : Int) + 1) d (.slice A d c)) := by
    rw [hV1]
    refine (J.c3.set 0 (.int .i64 ((N : Int) + 1))).congr (fun i hi => ?_)
    match i, hi with
    | 0, _ => rfl
    | 1, _ => rfl
    | 2, _ => rfl
  have x4 : V1.rowIs b4 45 3 (wvF N d (.slice A d c)) := by rw [hV1]; exact J.c4.setOther J.n34.symm _
  have x5 : V1.rowIs b5 45 3 (wvF N d (.slice A d c)) := by rw [hV1]; exact J.c5.setOther J.n35.symm _
  have xb : V1.cell? ⟨w.heap.size, 2, none⟩ = some (.slice A d c) := by rw [hV1, World.cell?_setCell_far _ _ _ _ (by have := J.g3; simp; omega)]; exact hbx
  have xo : Below w.heap.size w V1 := by rw [hV1]; exact J.old.setCell (by have := J.g3; simp; omega) _
  have q1 : V1.cell? ⟨b4, 2, none⟩ = some (.slice A d c) := x4.cell (i := 2) (by omega)
  have fq := x4.frozen 2
  obtain ⟨V2, hV2⟩ : ∃ V2, V2 = V1.setCell ⟨b4, 2, none⟩ (.slice A (d - 1) c) := ⟨_, rfl⟩
  have y3 : V2.rowIs b3 45 3 (wvF ((N : Int) + 1) d (.slice A d c)) := by rw [hV2]; exact x3.setOther J.n34 _
  have y4 : V2.rowIs b4 45 3 (wvF N d (.slice A (d - 1) c)) := by
    rw [hV2]
    refine (x4.set 2 (.slice A (d - 1) c)).congr (fun i hi => ?_)
    match i, hi with
    | 0, _ => rfl
    | 1, _ => rfl
    | 2, _ => rfl
  have y5 : V2.rowIs b5 45 3 (wvF N d (.slice A d c)) := by rw [hV2]; exact x5.setOther J.n45.symm _
  have yo : Below w.heap.size w V2 := by rw [hV2]; exact xo.setCell (by have := J.g4; simp; omega) _
  have q2 : V2.cell? ⟨b5, 1, none⟩ = some (.int .i64 d) := y5.cell (i := 1) (by omega)
  have fq2 := y5.frozen 1
  obtain ⟨V3, hV3⟩ : ∃ V3, V3 = V2.setCell ⟨b5, 1, none⟩ (.int .i64 ((d : Int) + 1)) := ⟨_, rfl⟩
  have z3 : V3.rowIs b3 45 3 (wvF ((N : Int) + 1) d (.slice A d c)) := by rw [hV3]; exact y3.setOther J.n35 _
  have z4 : V3.rowIs b4 45 3 (wvF N d (.slice A (d - 1) c)) := by rw [hV3]; exact y4.setOther J.n45 _
  have z5 : V3.rowIs b5 45 3 (wvF N ((d : Int) + 1) (.slice A d c)) := by
    rw [hV3]
    refine (y5.set 1 (.int .i64 ((d : Int) + 1))).congr (fun i hi => ?_)
    match i, hi with
    | 0, _ => rfl
    | 1, _ => rfl
    | 2, _ => rfl
  have zo : Below w.heap.size w V3 := by rw [hV3]; exact yo.setCell (by have := J.g5; simp; omega) _
  have HV1 := Lib.hid hV1
  have HV2 := Lib.hid hV2
  have HV3 := Lib.hid hV3
  clear hV1 hV2 hV3 J x3 x4 x5 y3 y4 y5 xo yo
  go_upto_region 3 with fail
  rw [← HV1.out]
  clear HV1 a0 fa hbx
  have e9 : (0 : Int) < (d : Int) - 1 ∨ d = 1 := by omega
  go_cut [20] (fun _ W => V2 = W)
  case first =>
    obtain ⟨e, rfl⟩ : ∃ e, d = e + 1 := ⟨d - 1, by omega⟩
    have hz1 : ((e + 1 : Nat) : Int) - 1 = (e : Int) := by omega
    have hz2 : (e : Int) ≤ (c : Int) := by omega
    have hz3 : (0 : Int) ≤ (e : Int) := by omega
    have hz4 : ¬ ((e : Int) < 0) := by omega
    clear e9
    rcases Nat.eq_zero_or_pos e with he | he
    · subst he
      go_wp2_with fail
      go_meet
      exact HV2.out
    · have hz5 : (0 : Int) < (e : Int) := by omega
      go_wp2_with fail
      go_meet
      exact HV2.out
  case rest =>
  subst hcut
  clear e9 q1 fq xb HV2
  have G1 := Lib.hid (fun (W : World) (hb : Below w.heap.size w W) => spoilt1 (HW.out.on hb) c)
  have G2 := Lib.hid (fun (W : World) (hb : Below w.heap.size w W) => spoilt2 (HW.out.on hb) c)
  have G3 := Lib.hid (fun (W : World) (hb : Below w.heap.size w W) => spoilt3 (HW.out.on hb) c)
  rw [HN.out] at G1 G2 G3
  go_upto_region 5 with fail
  rw [← HV3.out]
  clear HV3 q2 fq2
  have a0 : V3.cell? ⟨b3, 0, none⟩ = some (.int .i64 ((N : Int) + 1)) := z3.cell (i := 0) (by omega)
  have a1 : V3.cell? ⟨b3, 1, none⟩ = some (.int .i64 d) := z3.cell (i := 1) (by omega)
  have a2 : V3.cell? ⟨b3, 2, none⟩ = some (.slice A d c) := z3.cell (i := 2) (by omega)
  go_wp2_with fail
  with_reducible refine (G1.out _ zo).mono ?_
  rintro e w1 ⟨rfl, hb1⟩
  have k4 := z4.of_block (hb1.block _ z4.lt)
  have k5 := z5.of_block (hb1.block _ z5.lt)
  have ko := zo.trans (hb1.mono zo.size)
  clear a0 a1 a2 z3 z4 z5 zo hb1 G1
  have a0 : w1.cell? ⟨b4, 0, none⟩ = some (.int .i64 N) := k4.cell (i := 0) (by omega)
  have a1 : w1.cell? ⟨b4, 1, none⟩ = some (.int .i64 d) := k4.cell (i := 1) (by omega)
  have a2 : w1.cell? ⟨b4, 2, none⟩ = some (.slice A (d - 1) c) := k4.cell (i := 2) (by omega)
  go_wp2_with fail
  with_reducible refine (G2.out _ ko).mono ?_
  rintro e w2 ⟨rfl, hb2⟩
  have m5 := k5.of_block (hb2.block _ k5.lt)
  have mo := ko.trans (hb2.mono ko.size)
  clear a0 a1 a2 k4 k5 ko hb2 G2
  have a0 : w2.cell? ⟨b5, 0, none⟩ = some (.int .i64 N) := m5.cell (i := 0) (by omega)
  have a1 : w2.cell? ⟨b5, 1, none⟩ = some (.int .i64 ((d : Int) + 1)) := m5.cell (i := 1) (by omega)
  have a2 : w2.cell? ⟨b5, 2, none⟩ = some (.slice A d c) := m5.cell (i := 2) (by omega)
  go_wp2_with fail
  with_reducible refine (G3.out _ mo).mono ?_
  rintro e w3 ⟨rfl, hb3⟩
  have no := mo.trans (hb3.mono mo.size)
  clear a0 a1 a2 m5 mo hb3 G3
  go_wp2
  go_ret
  exact ⟨rfl, no⟩

end Go.Proofs.Ytgnakccbkglfpaa
