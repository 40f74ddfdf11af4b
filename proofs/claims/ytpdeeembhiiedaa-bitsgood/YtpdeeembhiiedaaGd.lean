/- What the reference's ListOf answers, and the walk of the law BitsGood. -/
import Derived.Test.YtpdeeembhiiedaaRc
import Derived.Test.YtpdeeembhiiedaaMc
namespace Go.Proofs.Ytpdeeembhiiedaa
open Go.RowKit
attribute [local irreducible] Bt.pop Bt.popF

/-- two results, the second a bool -/
def TwoIs (r : Bool) (e : Ending) : Prop := ∃ v, e = .returned (.tuple #[v, .bool r])

theorem TwoIs.mk (v : Value) (r : Bool) : TwoIs r (.returned (.tuple #[v, .bool r])) := ⟨v, rfl⟩
/-- the bits read so far -/
def lb (P : Nat → Nat) (k : Nat) : Nat → Value := fun j => .bool (if j < k then (P (j / 64) / 2 ^ (j % 64) % 2 == 1) else false)

theorem bit_div (p k D : Nat) (hp : p < 18446744073709551616) (hD : D = 2 ^ k) : ((IntKind.u64.wrap ((p : Int) / (D : Int))).tmod 2 == 1) = (p / 2 ^ k % 2 == 1) := by
  subst hD
  have e : ((p : Int) / ((2 ^ k : Nat) : Int)) = ((p / 2 ^ k : Nat) : Int) := (Int.natCast_ediv _ _).symm
  have hle : p / 2 ^ k ≤ p := Nat.div_le_self _ _
  rw [e, IntKind.wrap_u64]
  generalize p / 2 ^ k = d at hle
  rw [show ((d : Int) % 18446744073709551616) = (d : Int) from by omega, Int.tmod_eq_emod_of_nonneg (by omega)]
  rw [Bool.eq_iff_iff]; simp only [beq_iff_eq]; omega

/-- what ListOf answers -/
def LoPost (n : Int) (np na : Nat) (P : Nat → Nat) (a : Nat → Int) (w : World) (e : Ending) (w' : World) : Prop :=
  ∃ r : Bool, TwoIs r e ∧ (r = true ↔ GoodIs n np na P a) ∧ Below w.heap.size w w'

set_option maxHeartbeats 2000000 in
theorem listOf_any (n : Int) (A : Option Addr) (np cp : Nat) (A2 : Option Addr) (na ca : Nat) (w : World) (P : Nat → Nat) (a : Nat → Int) (hn : n ≤ 1048576) (_hna : na ≤ 9223372036854775807)
    (hP : Row w w.heap.size A np (fun k => .int .u64 (P k))) (hP2 : ∀ k, P k < 18446744073709551616) (ha : Row w w.heap.size A2 na (fun k => .int .i64 (a k))) :
    Calls Try.prog 16 #[.agg #[.int .i64 n, .slice A np cp, .slice A2 na ca]] w (LoPost n np na P a w) := by
  by_cases h0 : n < 0
  · have hd : decide (n < 0) = true := by simp [h0]
    have HG := Lib.hid (show false = true ↔ GoodIs n np na P a from ⟨(fun h => by cases h), fun h => by have := h.1; omega⟩)
    go_enter Try.func16, Try.ntmps16
    go_wp2
    go_ret2
    exact ⟨false, TwoIs.mk _ _, HG.out, (Below.refl _ _).alloc (Nat.le_refl _) _⟩
  · have hd : decide (n < 0) = false := by simp; omega
    have hd3 : decide (1048576 < n) = false := by simp; omega
    by_cases h1 : (np : Int) = n / 64 + 1
    · obtain ⟨N, rfl⟩ := Int.eq_ofNat_of_zero_le (show 0 ≤ n by omega)
      have h1n : np = N / 64 + 1 := by omega
      have hsg := same_good N np na P a hP2 h1n
      subst h1n
      have HG := Lib.hid hsg
      have hd1 : (((N / 64 + 1 : Nat) : Int) != (N : Int) / 64 + 1) = false := by simp
      clear h1 hsg
      obtain ⟨b, o, rfl, hb, hc⟩ := hP (by omega)
      have HC := Lib.hid hc
      clear hc
      have hmk := run_make_row' (P := Try.prog) 22 4 (.bool false) 1 Try.underlying22 infoBool rfl .i64 .i64 N (by omega) (by omega)
      go_enter Try.func16, Try.ntmps16
      go_wp2
      go_loopw [29] (fun s wr => ∃ k : Nat, k ≤ N ∧ s = .int .i64 k ∧ wr.rowIs (w.heap.size + 1) 4 N (lb P k) ∧ wr.rowIs w.heap.size 27 3 (boxF N (.slice (some ⟨b, o, none⟩) (N / 64 + 1) cp) (.slice A2 na ca)) ∧ Below w.heap.size w wr)
        (fun s _ => N - (intOf s).toNat)
      case atStart =>
        refine ⟨0, Nat.zero_le _, rfl, ?_, ?_, ((Below.refl _ _).alloc (Nat.le_refl _) _).alloc (by simp) _⟩
        · have h0 := World.rowIs_made (w.alloc (.cells #[.int .i64 N, .slice (some ⟨b, o, none⟩) (N / 64 + 1) cp, .slice A2 na ca] 27)) (.bool false) N 4
          rw [World.size_alloc] at h0
          exact h0.congr (fun i _ => by simp [lb])
        · exact (World.rowIs_alloc w #[.int .i64 N, .slice (some ⟨b, o, none⟩) (N / 64 + 1) cp, .slice A2 na ca] 27 (boxF N (.slice (some ⟨b, o, none⟩) (N / 64 + 1) cp) (.slice A2 na ca)) (fun i hi => by
            match i, hi with
            | 0, _ => rfl
            | 1, _ => rfl
            | 2, _ => rfl)).alloc _
      case round =>
        obtain ⟨k, hk, rfl, hr, hbx, hbl⟩ := hrel
        clear hmk
        by_cases hlt : k < N
        · have hc1 : wr.cell? ⟨b, o + k / 64, none⟩ = some (.int .u64 (P (k / 64))) := (hbl.cell (p := ⟨b, o + k / 64, none⟩) hb).trans (HC.out (k / 64) (by omega))
          have hc2 : wr.cell? ⟨w.heap.size, 1, none⟩ = some (.slice (some ⟨b, o, none⟩) (N / 64 + 1) cp) := hbx.cell (by omega)
          have hc3 := hr.cell hlt
          have hf3 := hr.frozen k
          obtain ⟨D, hD⟩ : ∃ D, D = 2 ^ (k % 64) := ⟨_, rfl⟩
          have hD1 : 1 ≤ D := by rw [hD]; exact Nat.one_le_two_pow
          have hD2 : D ≤ 2 ^ 63 := by rw [hD]; exact Nat.pow_le_pow_right (by omega) (by omega)
          have hw : IntKind.u64.wrap (2 ^ (k % 64)) = (D : Int) := by
            have : (2 : Int) ^ (k % 64) = ((2 ^ (k % 64) : Nat) : Int) := by simp
            rw [this, ← hD, IntKind.wrap_u64]; omega
          have HB := Lib.hid (bit_div (P (k / 64)) (k % 64) D (hP2 _) hD)
          have hr1 := (hr.set k (.bool (P (k / 64) / 2 ^ (k % 64) % 2 == 1))).congr (g := lb P (k + 1)) (fun i _ => by
            unfold lb
            by_cases h1 : i = k
            · subst h1; simp
            · rw [if_neg h1]
              by_cases h2 : i < k
              · rw [if_pos h2, if_pos (by omega)]
              · rw [if_neg h2, if_neg (by omega)])
          have hp := hP2 (k / 64)
          have hbx1 := hbx.setOther (a := ⟨w.heap.size + 1, k, none⟩) (by simp) (.bool (P (k / 64) / 2 ^ (k % 64) % 2 == 1))
          have hbl1 := hbl.setCell (p := ⟨w.heap.size + 1, k, none⟩) (by simp) (.bool (P (k / 64) / 2 ^ (k % 64) % 2 == 1))
          rw [← HB.out] at hr1 hbx1 hbl1
          clear hD HB
          generalize P (k / 64) = pp at *
          go_wp2
          go_roundw
          case rel =>
            exact ⟨k + 1, by omega, by go_num, hr1, hbx1, hbl1⟩
          case measure => simp [intOf]; omega
        · have hkn : k = N := by omega
          subst hkn
          have hL : Row wr wr.heap.size (some ⟨w.heap.size + 1, 0, none⟩) k (fun j => .bool ((Bt.bitsL P k).getD j false)) :=
            (Row.of_rowIs hr hr.lt).congr (fun i hi => by simp only [lb]; rw [if_pos hi, Bt.bitsL_get P k i hi])
          have hB0 : Row wr wr.heap.size (some ⟨b, o, none⟩) (k / 64 + 1) (fun j => .int .u64 (P j)) := (Row.below (fun _ => ⟨b, o, rfl, hb, HC.out⟩) hbl).more hbl.size
          have hB1 := (ha.below hbl).more hbl.size
          have HBO := Lib.hid (fun (W : World) (hW : Below wr.heap.size wr W) => bitsOf_any (some ⟨w.heap.size + 1, 0, none⟩) k k (Bt.bitsL P k) W ((hL.below hW).more hW.size) (Bt.bitsL_len P k).symm (by omega))
          have HR := Lib.hid hB0
          have HS := Lib.hid hB1
          clear hL hB0 hB1 ha hP HC hlt
          have hbz := hbx.lt
          have c0 : wr.cell? ⟨w.heap.size, 0, none⟩ = some (.int .i64 k) := hbx.cell (by omega)
          have c1 : wr.cell? ⟨w.heap.size, 1, none⟩ = some (.slice (some ⟨b, o, none⟩) (k / 64 + 1) cp) := hbx.cell (by omega)
          have c2 : wr.cell? ⟨w.heap.size, 2, none⟩ = some (.slice A2 na ca) := hbx.cell (by omega)
          clear hbx hr
          go_wp2_with fail
          go_region_with (first
            | (go_at_call 10; refine (HBO.out _ (Below.refl _ _).drew).mono ?_; rintro e w1 ⟨A1, d1, A3, d2, rfl, hI, hb1⟩; have hb2 : Below wr.heap.size wr w1 := (Below.refl _ _).drew.trans hb1; have e0 := (hb2.cell (p := ⟨w.heap.size, 0, none⟩) hbz).trans c0; have e1 := (hb2.cell (p := ⟨w.heap.size, 1, none⟩) hbz).trans c1; have e2 := (hb2.cell (p := ⟨w.heap.size, 2, none⟩) hbz).trans c2)
            | (go_at_call 9; refine (sameBits_any _ _ _ _ _ _ _ _ _ _ _ _ _ _ (Bt.part (Bt.bitsL P k)) P (fun j => (Bt.ahd (Bt.bitsL P k) j : Nat)) a _ ?_ ?_ ?_ ?_ (by omega) (by omega)).mono ?_; (have q := hI.parts; rw [Bt.bitsL_len] at q; exact q); (have q := hI.ahead; rw [Bt.bitsL_len] at q; exact q); (exact (HR.out.below hb2).more hb2.size); (exact (HS.out.below hb2).more hb2.size); rintro e w2 ⟨r, rfl, hr, hb3⟩))
          all_goals
            have HZ := Lib.hid (hr.trans (show SameIs k k (k / 64 + 1) (k / 64 + 1) (k / 64 + 1) na (Bt.part (Bt.bitsL P k)) P (fun j => (Bt.ahd (Bt.bitsL P k) j : Nat)) a ↔ GoodIs k (k / 64 + 1) na P a from ⟨fun h => HG.out.1 ⟨by trivial, by trivial, h.2.2⟩, fun h => ⟨rfl, rfl, (HG.out.2 h).2.2⟩⟩))
            have hlast := (hbl.trans (hb2.mono hbl.size)).trans (hb3.mono (Nat.le_trans hbl.size hb2.size))
            clear hr HG HBO HR HS hb1 hb2 hb3 hI
            go_wp2
            go_ret2
            exact ⟨r, TwoIs.mk _ _, HZ.out, hlast⟩
    · have hd1 : ((np : Int) != n / 64 + 1) = true := by simp [h1]
      have HG := Lib.hid (show false = true ↔ GoodIs n np na P a from ⟨(fun h => by cases h), fun h => absurd h.2.1 h1⟩)
      clear h1
      go_enter Try.func16, Try.ntmps16
      go_wp2
      go_ret2
      exact ⟨false, TwoIs.mk _ _, HG.out, (Below.refl _ _).alloc (Nat.le_refl _) _⟩

set_option maxHeartbeats 1000000 in
theorem bitsGood_large (n : Int) (A : Option Addr) (np cp : Nat) (A2 : Option Addr) (na ca : Nat) (w : World) (hn : 1048576 < n) :
    Calls Try.prog 4 #[.agg #[.int .i64 n, .slice A np cp, .slice A2 na ca]] w fun e w' => e = .returned (.bool true) ∧ Below w.heap.size w w' := by
  go_enter Try.func4, Try.ntmps4
  go_wp2_with fail
  refine (madeL_any _).mono ?_
  rintro e w1 ⟨rfl, hb⟩
  have hb1 := ((Below.refl _ w).alloc (Nat.le_refl _) (.cells #[.int .i64 n, .slice A np cp, .slice A2 na ca] 27)).trans (hb.mono (by simp))
  clear hb
  go_wp2
  go_ret
  exact ⟨rfl, hb1⟩

set_option maxHeartbeats 1000000 in
theorem bitsGood_small (n : Int) (A : Option Addr) (np cp : Nat) (A2 : Option Addr) (na ca : Nat) (w : World) (P : Nat → Nat) (a : Nat → Int) (hn : n ≤ 1048576) (hnp : np ≤ 9223372036854775807) (hna : na ≤ 9223372036854775807)
    (hP : Row w w.heap.size A np (fun k => .int .u64 (P k))) (hP2 : ∀ k, P k < 18446744073709551616) (ha : Row w w.heap.size A2 na (fun k => .int .i64 (a k))) :
    Calls Try.prog 4 #[.agg #[.int .i64 n, .slice A np cp, .slice A2 na ca]] w fun e w' => e = .returned (.bool true) ∧ Below w.heap.size w w' := by
  have HL := Lib.hid (fun (W : World) (hW : Below w.heap.size w W) => listOf_any n A np cp A2 na ca W P a hn hna ((hP.below hW).more hW.size) hP2 ((ha.below hW).more hW.size))
  have HG := Lib.hid (fun (W : World) (hW : Below w.heap.size w W) => good_any n A np cp A2 na ca W P a (by omega) hnp hna ((hP.below hW).more hW.size) hP2 ((ha.below hW).more hW.size))
  clear hP hP2 ha
  go_enter Try.func4, Try.ntmps4
  go_wp2_with fail
  refine (HL.out _ ((Below.refl _ _).alloc (Nat.le_refl _) _)).mono ?_
  rintro e w1 ⟨r, ⟨v, rfl⟩, hr, hb⟩
  obtain ⟨k0, k1, k2, hb1, hs1⟩ := box3N (q := 0) hb
  have HR := Lib.hid hr
  clear hr hb HL
  go_wp2_with fail
  refine (HG.out _ hb1).mono ?_
  rintro e w2 ⟨r2, rfl, hr2, hb2⟩
  obtain rfl : r2 = r := by rw [Bool.eq_iff_iff, hr2, HR.out]
  have hb3 := hb1.trans (hb2.mono hb1.size)
  clear hr2 HR HG hb2 k0 k1 k2
  have hrr : (r2 == r2) = true := by simp
  go_wp2_with fail
  refine (madeL_any _).mono ?_
  rintro e w3 ⟨rfl, hb4⟩
  have hb5 := hb3.trans (hb4.mono hb3.size)
  clear hb3 hb4 hb1
  go_wp2
  go_ret
  exact ⟨rfl, hb5⟩

theorem bitsGood_any (n : Int) (A : Option Addr) (np cp : Nat) (A2 : Option Addr) (na ca : Nat) (w : World) (P : Nat → Nat) (a : Nat → Int) (hnp : np ≤ 9223372036854775807) (hna : na ≤ 9223372036854775807)
    (hP : Row w w.heap.size A np (fun k => .int .u64 (P k))) (hP2 : ∀ k, P k < 18446744073709551616) (ha : Row w w.heap.size A2 na (fun k => .int .i64 (a k))) :
    Calls Try.prog 4 #[.agg #[.int .i64 n, .slice A np cp, .slice A2 na ca]] w fun e w' => e = .returned (.bool true) ∧ Below w.heap.size w w' := by
  by_cases h : 1048576 < n
  · exact bitsGood_large n A np cp A2 na ca w h
  · exact bitsGood_small n A np cp A2 na ca w P a (by omega) hnp hna hP hP2 ha

end Go.Proofs.Ytpdeeembhiiedaa
