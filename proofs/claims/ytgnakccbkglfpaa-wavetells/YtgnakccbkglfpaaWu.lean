/- A wave that a law keeps in a block of its own; 'waves' of both packages: of one list wave answers as told. -/
import Derived.Test.YtgnakccbkglfpaaWt
namespace Go.Proofs.Ytgnakccbkglfpaa
open Go.RowKit
attribute [local irreducible] Bt.pop Bt.popF

/-- block B holds the wave of l; what was there in w0 is there still -/
structure LW (w0 : World) (B N : Nat) (A : Option Addr) (d c : Nat) (l : List Nat) (W : World) : Prop where
  c0 : W.cell? ⟨B, 0, none⟩ = some (.int .i64 N)
  c1 : W.cell? ⟨B, 1, none⟩ = some (.int .i64 d)
  c2 : W.cell? ⟨B, 2, none⟩ = some (.slice A d c)
  wave : Wave W A d l
  len : N = l.length
  cap : d ≤ c
  lt : B < W.heap.size
  old : Below w0.heap.size w0 W
section
variable {w0 : World} {B N : Nat} {A : Option Addr} {d c : Nat} {l : List Nat} {W W' : World}
theorem LW.on (h : LW w0 B N A d c l W) (hb : Below W.heap.size W W') : LW w0 B N A d c l W' :=
  ⟨(hb.cell (p := ⟨B, 0, none⟩) h.lt).trans h.c0, (hb.cell (p := ⟨B, 1, none⟩) h.lt).trans h.c1, (hb.cell (p := ⟨B, 2, none⟩) h.lt).trans h.c2, h.wave.on hb, h.len, h.cap, Nat.lt_of_lt_of_le h.lt hb.size, h.old.trans (hb.mono h.old.size)⟩
theorem LW.drew (h : LW w0 B N A d c l W) : LW w0 B N A d c l W.drew := h.on (Below.refl _ _).drew
theorem LW.start (h : Wave W A d l) (hN : N = l.length) (hc : d ≤ c) (hb : Below w0.heap.size w0 W) (t : TypeId) : LW w0 W.heap.size N A d c l (W.alloc (.cells #[.int .i64 N, .int .i64 d, .slice A d c] t)) :=
  ⟨by simp, by simp, by simp, h.on ((Below.refl _ _).alloc (Nat.le_refl _) _), hN, hc, by simp, hb.alloc hb.size _⟩
theorem LW.at_ (h : LW w0 B N A d c l W) (i : Int) : Calls Try.prog 41 #[.agg #[.int .i64 N, .int .i64 d, .slice A d c], .int .i64 i] W fun e w' => e = .returned (.int .i64 (atI l i)) ∧ LW w0 B N A d c l w' := by
  have e := h.len
  subst e
  exact (at_wave h.wave c i).mono fun _ _ ⟨he, hb⟩ => ⟨he, h.on hb⟩
theorem LW.count (h : LW w0 B N A d c l W) (n i : Int) (hi1 : -9223372036854775808 ≤ i) (hi2 : i ≤ 9223372036854775807) : Calls Try.prog 42 #[.agg #[.int .i64 N, .int .i64 d, .slice A d c], .int .i64 n, .int .i64 i] W fun e w' => e = .returned (.int .i64 (countI l n i)) ∧ LW w0 B N A d c l w' := by
  have e := h.len
  subst e
  exact (count_wave h.wave c n i hi1 hi2).mono fun _ _ ⟨he, hb⟩ => ⟨he, h.on hb⟩
theorem LW.good (h : LW w0 B N A d c l W) : Calls Try.prog 40 #[.agg #[.int .i64 N, .int .i64 d, .slice A d c]] W fun e w' => e = .returned (.bool true) ∧ LW w0 B N A d c l w' := by
  have e := h.len
  subst e
  exact (good_wave h.wave c).mono fun _ _ ⟨he, hb⟩ => ⟨he, h.on hb⟩
/-- the kinds that are handed back -/
def kindsN (l : List Nat) (d : Nat) (i k : Int) : List Nat := Wv.kinds l (Wv.cl l.length i) (Wv.cl l.length k) (2 ^ d)
theorem LW.kinds (h : LW w0 B N A d c l W) (i k : Int) (f1 : -9223372036854775808 ≤ i) (f2 : i ≤ 9223372036854775807) (t1 : -9223372036854775808 ≤ k) (t2 : k ≤ 9223372036854775807) : Calls Try.prog 44 #[.agg #[.int .i64 N, .int .i64 d, .slice A d c], .int .i64 i, .int .i64 k] W fun e w' => ∃ X cx, e = .returned (.slice X (kindsN l d i k).length cx) ∧ NRow w' w'.heap.size X (kindsN l d i k) ∧ LW w0 B N A d c l w' := by
  have e := h.len
  subst e
  refine (kinds_wave h.wave c h.cap i k f1 f2 t1 t2).mono ?_
  rintro e w' ⟨v, rfl, hO⟩
  obtain ⟨X, cx, rfl, _⟩ := own_slice hO.own
  obtain ⟨_, hr⟩ := own_row (0 : Int) hO.own
  refine ⟨X, cx, by rw [up_len]; rfl, NRow.of_ints ?_, h.on hO.old⟩
  exact hr
end

theorem waves_at : atI [5, 2, 5, 0] 2 = 5 := by decide
theorem waves_count : countI [5, 2, 5, 0] 5 3 = 2 := by decide
theorem waves_kinds : (kindsN [5, 2, 5, 0] 3 0 4).length = 3 := by decide

theorem make_four (w : World) : ∀ W : World, W = w.alloc (.cells #[.int .i64 5, .int .i64 2, .int .i64 5, .int .i64 0] 3) → Calls Try.prog 36 #[.slice (some ⟨w.heap.size, 0, none⟩) 4 4, .int .i64 3] W fun e w' =>
    ∃ A' c', e = .returned (.tuple #[.agg #[.int .i64 4, .int .i64 3, .slice A' 3 c'], .bool true]) ∧ 3 ≤ c' ∧ Wave w' A' 3 [5, 2, 5, 0] ∧ Below w.heap.size w w' := by
  rintro W rfl
  have hr : NRow (w.alloc (.cells #[.int .i64 5, .int .i64 2, .int .i64 5, .int .i64 0] 3)) (w.alloc (.cells #[.int .i64 5, .int .i64 2, .int .i64 5, .int .i64 0] 3)).heap.size (some ⟨w.heap.size, 0, none⟩) [5, 2, 5, 0] := NRow.of_ints (irow_new w [5, 2, 5, 0] 3)
  refine (make_wave (some ⟨w.heap.size, 0, none⟩) 4 [5, 2, 5, 0] 3 _ hr (by omega) (by omega) (by decide) (by decide)).mono ?_
  rintro e w' ⟨A', c', rfl, h1, h2, h3⟩
  exact ⟨A', c', rfl, h1, h2, ((Below.refl _ w).alloc (Nat.le_refl _) _).trans (h3.mono (by simp))⟩

set_option maxHeartbeats 1000000 in
theorem wavesK_any (w : World) : Calls Try.prog 46 #[] w fun e w' => e = .returned (.bool true) ∧ Below w.heap.size w w' := by
  have HE := Lib.hid (make_four w)
  go_enter Try.func46, Try.ntmps46
  go_wp2_with fail
  with_reducible refine (HE.out _ rfl).mono ?_
  rintro e w1 ⟨A, c, rfl, hc, hW, hb⟩
  have J : LW w w1.heap.size 4 A 3 c [5, 2, 5, 0] (w1.alloc (.cells #[.int .i64 4, .int .i64 3, .slice A 3 c] 45)) := LW.start hW rfl hc hb 45
  have HA := Lib.hid (fun W (h : LW w w1.heap.size 4 A 3 c [5, 2, 5, 0] W) => show Calls Try.prog 41 #[.agg #[.int .i64 4, .int .i64 3, .slice A 3 c], .int .i64 2] W fun e w' => e = .returned (.int .i64 5) ∧ LW w w1.heap.size 4 A 3 c [5, 2, 5, 0] w' from (h.at_ 2).mono fun _ _ hh => ⟨by rw [hh.1, waves_at], hh.2⟩)
  have HC := Lib.hid (fun W (h : LW w w1.heap.size 4 A 3 c [5, 2, 5, 0] W) => show Calls Try.prog 42 #[.agg #[.int .i64 4, .int .i64 3, .slice A 3 c], .int .i64 5, .int .i64 3] W fun e w' => e = .returned (.int .i64 2) ∧ LW w w1.heap.size 4 A 3 c [5, 2, 5, 0] w' from (h.count 5 3 (by decide) (by decide)).mono fun _ _ hh => ⟨by rw [hh.1, waves_count], hh.2⟩)
  have HK := Lib.hid (fun W (h : LW w w1.heap.size 4 A 3 c [5, 2, 5, 0] W) => show Calls Try.prog 44 #[.agg #[.int .i64 4, .int .i64 3, .slice A 3 c], .int .i64 0, .int .i64 4] W fun e w' => ∃ X cx, e = .returned (.slice X 3 cx) ∧ LW w w1.heap.size 4 A 3 c [5, 2, 5, 0] w' from (h.kinds 0 4 (by decide) (by decide) (by decide) (by decide)).mono fun _ _ ⟨X, cx, h1, _, h2⟩ => ⟨X, cx, by rw [h1, waves_kinds], h2⟩)
  clear HE hW hb hc
  go_wp2_with fail
  with_reducible refine (HA.out _ J).mono ?_
  rintro e w2 ⟨rfl, J2⟩
  clear J HA
  have j0 : w2.cell? ⟨w1.heap.size, 0, none⟩ = some (.int .i64 4) := J2.c0
  have j1 : w2.cell? ⟨w1.heap.size, 1, none⟩ = some (.int .i64 3) := J2.c1
  have j2 : w2.cell? ⟨w1.heap.size, 2, none⟩ = some (.slice A 3 c) := J2.c2
  go_wp2_with fail
  with_reducible refine (HC.out _ J2).mono ?_
  rintro e w3 ⟨rfl, J3⟩
  clear J2 HC j0 j1 j2
  have j0 : w3.cell? ⟨w1.heap.size, 0, none⟩ = some (.int .i64 4) := J3.c0
  have j1 : w3.cell? ⟨w1.heap.size, 1, none⟩ = some (.int .i64 3) := J3.c1
  have j2 : w3.cell? ⟨w1.heap.size, 2, none⟩ = some (.slice A 3 c) := J3.c2
  go_wp2_with fail
  with_reducible refine (HK.out _ J3).mono ?_
  rintro e w4 ⟨X, cx, rfl, J4⟩
  have hold := J4.old
  clear J3 HK j0 j1 j2 J4
  go_wp2
  go_ret
  exact ⟨rfl, hold⟩

set_option maxHeartbeats 1000000 in
theorem wavesL_any (w : World) : Calls Try.prog 35 #[] w fun e w' => e = .returned (.bool true) ∧ Below w.heap.size w w' := by
  have HE := Lib.hid (make_four w)
  go_enter Try.func35, Try.ntmps35
  go_wp2_with fail
  with_reducible refine (HE.out _ rfl).mono ?_
  rintro e w1 ⟨A, c, rfl, hc, hW, hb⟩
  have J : LW w w1.heap.size 4 A 3 c [5, 2, 5, 0] (w1.alloc (.cells #[.int .i64 4, .int .i64 3, .slice A 3 c] 45)) := LW.start hW rfl hc hb 45
  have HA := Lib.hid (fun W (h : LW w w1.heap.size 4 A 3 c [5, 2, 5, 0] W) => show Calls Try.prog 41 #[.agg #[.int .i64 4, .int .i64 3, .slice A 3 c], .int .i64 2] W fun e w' => e = .returned (.int .i64 5) ∧ LW w w1.heap.size 4 A 3 c [5, 2, 5, 0] w' from (h.at_ 2).mono fun _ _ hh => ⟨by rw [hh.1, waves_at], hh.2⟩)
  have HC := Lib.hid (fun W (h : LW w w1.heap.size 4 A 3 c [5, 2, 5, 0] W) => show Calls Try.prog 42 #[.agg #[.int .i64 4, .int .i64 3, .slice A 3 c], .int .i64 5, .int .i64 3] W fun e w' => e = .returned (.int .i64 2) ∧ LW w w1.heap.size 4 A 3 c [5, 2, 5, 0] w' from (h.count 5 3 (by decide) (by decide)).mono fun _ _ hh => ⟨by rw [hh.1, waves_count], hh.2⟩)
  have HK := Lib.hid (fun W (h : LW w w1.heap.size 4 A 3 c [5, 2, 5, 0] W) => show Calls Try.prog 44 #[.agg #[.int .i64 4, .int .i64 3, .slice A 3 c], .int .i64 0, .int .i64 4] W fun e w' => ∃ X cx, e = .returned (.slice X 3 cx) ∧ LW w w1.heap.size 4 A 3 c [5, 2, 5, 0] w' from (h.kinds 0 4 (by decide) (by decide) (by decide) (by decide)).mono fun _ _ ⟨X, cx, h1, _, h2⟩ => ⟨X, cx, by rw [h1, waves_kinds], h2⟩)
  clear HE hW hb hc
  go_wp2_with fail
  with_reducible refine (HA.out _ J).mono ?_
  rintro e w2 ⟨rfl, J2⟩
  clear J HA
  have j0 : w2.cell? ⟨w1.heap.size, 0, none⟩ = some (.int .i64 4) := J2.c0
  have j1 : w2.cell? ⟨w1.heap.size, 1, none⟩ = some (.int .i64 3) := J2.c1
  have j2 : w2.cell? ⟨w1.heap.size, 2, none⟩ = some (.slice A 3 c) := J2.c2
  go_wp2_with fail
  with_reducible refine (HC.out _ J2).mono ?_
  rintro e w3 ⟨rfl, J3⟩
  clear J2 HC j0 j1 j2
  have j0 : w3.cell? ⟨w1.heap.size, 0, none⟩ = some (.int .i64 4) := J3.c0
  have j1 : w3.cell? ⟨w1.heap.size, 1, none⟩ = some (.int .i64 3) := J3.c1
  have j2 : w3.cell? ⟨w1.heap.size, 2, none⟩ = some (.slice A 3 c) := J3.c2
  go_wp2_with fail
  with_reducible refine (HK.out _ J3).mono ?_
  rintro e w4 ⟨X, cx, rfl, J4⟩
  have hold := J4.old
  clear J3 HK j0 j1 j2 J4
  go_wp2
  go_ret
  exact ⟨rfl, hold⟩

end Go.Proofs.Ytgnakccbkglfpaa
