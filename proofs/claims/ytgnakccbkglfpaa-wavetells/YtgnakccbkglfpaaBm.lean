/- What bits.onesAhead and bits.Make make. -/
import Derived.Test.YtgnakccbkglfpaaBw
namespace Go.Proofs.Ytgnakccbkglfpaa
open Go.RowKit

theorem infoInt : (Try.prog.info? 3).map (fun i => (i.zero, i.size, i.bytes)) = some (some (.int .i64 0), 1, 8) := by kernel_rfl
theorem infoU64 : (Try.prog.info? 59).map (fun i => (i.zero, i.size, i.bytes)) = some (some (.int .u64 0), 1, 8) := by kernel_rfl
theorem infoBool : (Try.prog.info? 4).map (fun i => (i.zero, i.size, i.bytes)) = some (some (.bool false), 1, 1) := by kernel_rfl

/-- how many ones there are in the first k numbers -/
def psum (P : Nat → Nat) : Nat → Nat
  | 0 => 0
  | k + 1 => psum P k + Bt.pop (P k)
theorem psum_le (P : Nat → Nat) (k : Nat) : psum P k ≤ 64 * k := by
  induction k with
  | zero => simp [psum]
  | succ k ih => have := Bt.pop_le (P k); simp only [psum]; omega
theorem psum_part (l : List Bool) (k : Nat) : psum (Bt.part l) k = Bt.ahd l k := by
  induction k with
  | zero => rw [Bt.ahd_zero]; rfl
  | succ k ih => rw [Bt.ahd_succ, ← ih]; rfl

set_option maxHeartbeats 1000000 in
theorem onesAhead_any (A : Option Addr) (n c : Nat) (P : Nat → Nat) (w : World) (hP : Row w w.heap.size A n (fun k => .int .u64 (P k))) (hP2 : ∀ k, P k < 18446744073709551616) (hn : n ≤ 17592186044416) :
    Calls Try.prog 48 #[.slice A n c] w fun e w' =>
      ∃ g, e = .returned (.slice (some ⟨g, 0, none⟩) n n) ∧ w.heap.size ≤ g ∧ w'.rowIs g 3 n (fun k => .int .i64 (psum P k)) ∧ Below w.heap.size w w' := by
  have hmk := run_make_row' (P := Try.prog) 25 3 (.int .i64 0) 8 Try.underlying25 infoInt rfl .i64 .i64 n (by omega) (by omega)
  have hrow := World.rowIs_made w (.int .i64 0) n 3
  have hbel : Below w.heap.size w (w.alloc (.cells (madeCells #[.int .i64 0] n) 3)) := (Below.refl _ _).alloc (Nat.le_refl _) _
  go_enter Try.func48, Try.ntmps48
  go_wp2
  go_loopw [4, 12] (fun s i wr => ∃ k : Nat, k ≤ n ∧ i = .int .i64 k ∧ s = .int .i64 (psum P k) ∧ wr.rowIs w.heap.size 3 n (fun j => .int .i64 (if j < k then psum P j else 0 : Nat)) ∧ Below w.heap.size w wr)
    (fun _ i _ => n - (intOf i).toNat)
  case atStart => exact ⟨0, Nat.zero_le _, rfl, rfl, hrow.congr (fun i _ => by simp), hbel⟩
  case round =>
    obtain ⟨k, hk, rfl, rfl, hr, hb⟩ := hrel
    clear hrow hbel hmk
    have hps := psum_le P k
    by_cases hlt : k < n
    · obtain ⟨b, o, rfl, hbb, hc⟩ := hP (by omega)
      have hc1 : wr.cell? ⟨b, o + k, none⟩ = some (.int .u64 (P k)) := (hb.cell (p := ⟨b, o + k, none⟩) hbb).trans (hc k hlt)
      have hc2 := hr.cell hlt
      have hf := hr.frozen k
      clear hc
      have hr1 := (hr.set k (.int .i64 (psum P k))).congr (g := fun j => .int .i64 (if j < k + 1 then psum P j else 0 : Nat)) (fun i _ => by
        by_cases h1 : i = k
        · subst h1; simp
        · rw [if_neg h1]; by_cases h2 : i < k
          · rw [if_pos h2, if_pos (by omega)]
          · rw [if_neg h2, if_neg (by omega)])
      have hb1 := hb.setCell (p := ⟨w.heap.size, k, none⟩) (Nat.le_refl _) (.int .i64 (psum P k))
      have hp1 := hP2 k
      have hp2 := Bt.pop_le (P k)
      have H := Lib.hid (show psum P (k + 1) = psum P k + Bt.pop (P k) from rfl)
      go_wp2_with (go_at_call 50; refine (ones64_any _ _ hp1).mono ?_; rintro e w' ⟨rfl, rfl⟩)
      go_roundw
      case rel => exact ⟨k + 1, by omega, by go_num, by rw [H.out]; go_num, hr1, hb1⟩
      case measure => simp [intOf]; omega
    · go_wp2
      go_ret
      exact ⟨w.heap.size, rfl, Nat.le_refl _, hr.congr (fun i hi => by rw [if_pos (by omega)]), hb⟩

theorem ite_var {α : Type} (c : Prop) [Decidable c] (a b : α) (P : α → Prop) (h1 : c → P a) (h2 : ¬ c → P b) : P (if c then a else b) := by
  by_cases h : c
  · rw [if_pos h]; exact h1 h
  · rw [if_neg h]; exact h2 h

theorem or_bit (p k : Nat) (hp : p < 18446744073709551616) (hk : k < 64) : bits .or .u64 (p : Int) (IntKind.u64.wrap (2 ^ k)) = ((p ||| 2 ^ k : Nat) : Int) := by
  have h3 : 2 ^ k ≤ 2 ^ 63 := Nat.pow_le_pow_right (by omega) (by omega)
  have e : IntKind.u64.wrap (2 ^ k) = ((2 ^ k : Nat) : Int) := by
    have : (2 : Int) ^ k = ((2 ^ k : Nat) : Int) := by simp
    rw [this, IntKind.wrap_u64]
    generalize (2 : Nat) ^ k = m at h3
    omega
  rw [e, bits_or_u64_nat _ _ hp (by omega)]

/-- three cells stored one behind the other -/
theorem set3 {w : World} {b : Nat} {t : TypeId} {f : Nat → Value} (h : w.rowIs b t 3 f) (v0 v1 v2 : Value) :
    (w.setCell ⟨b, 0, none⟩ v0).cell? ⟨b, 0, none⟩ = some v0 ∧ ((w.setCell ⟨b, 0, none⟩ v0).setCell ⟨b, 1, none⟩ v1).cell? ⟨b, 1, none⟩ = some v1 ∧
    (((w.setCell ⟨b, 0, none⟩ v0).setCell ⟨b, 1, none⟩ v1).setCell ⟨b, 2, none⟩ v2).cell? ⟨b, 2, none⟩ = some v2 :=
  ⟨(h.set 0 v0).cell (by omega), ((h.set 0 v0).set 1 v1).cell (by omega), (((h.set 0 v0).set 1 v1).set 2 v2).cell (by omega)⟩

/-- the three cells of bits that are nothing yet -/
def zeroBits : Nat → Value := fun j => if j = 0 then .int .i64 0 else .slice none 0 0

set_option maxHeartbeats 1000000 in
theorem make_new (A : Option Addr) (n c : Nat) (l : List Bool) (w : World) (hA : Row w w.heap.size A n (fun k => .bool (l.getD k false))) (hl : n = l.length) (hn : n ≤ 140737488355328) :
    Calls Try.prog 11 #[.slice A n c] w fun e w' =>
      ∃ g g2, e = .returned (.agg #[.int .i64 n, .slice (some ⟨g, 0, none⟩) (n / 64 + 1) (n / 64 + 1), .slice (some ⟨g2, 0, none⟩) (n / 64 + 1) (n / 64 + 1)]) ∧
        w.heap.size ≤ g ∧ w.heap.size ≤ g2 ∧ IsBits w' w'.heap.size (some ⟨g, 0, none⟩) (some ⟨g2, 0, none⟩) l ∧ Below w.heap.size w w' := by
  have hmk := run_make_row' (P := Try.prog) 24 59 (.int .u64 0) 8 Try.underlying24 infoU64 rfl .i64 .i64 (n / 64 + 1) (by omega) (by omega)
  have ec : (((n / 64 + 1 : Nat)) : Int) = (n : Int) / 64 + 1 := by omega
  rw [ec] at hmk
  clear ec
  have Hl := Lib.hid hl
  clear hl
  go_enter Try.func11, Try.ntmps11
  go_wp2_with (go_at_call 47; refine (partsFor_any _ _ (by omega) (by omega)).mono ?_; rintro e w' ⟨rfl, rfl⟩)
  go_loopw [12] (fun i wr => ∃ k : Nat, k ≤ n ∧ i = .int .i64 k ∧ wr.rowIs (w.heap.size + 1) 59 (n / 64 + 1) (fun p => .int .u64 (Bt.part (l.take k) p)) ∧ wr.rowIs w.heap.size 27 3 zeroBits ∧ Below w.heap.size w wr)
    (fun i _ => n - (intOf i).toNat)
  case atStart =>
    refine ⟨0, Nat.zero_le _, rfl, ?_, ?_, ?_⟩
    · have h0 := World.rowIs_made (w.alloc (.cells #[.int .i64 0, .slice none 0 0, .slice none 0 0] 27)) (.int .u64 0) (n / 64 + 1) 59
      rw [World.size_alloc] at h0
      exact h0.congr (g := fun p => .int .u64 (Bt.part (l.take 0) p)) (fun i _ => by rw [List.take_zero, Bt.part_nil]; rfl)
    · exact (World.rowIs_alloc w #[.int .i64 0, .slice none 0 0, .slice none 0 0] 27 zeroBits (fun i hi => by
        match i, hi with
        | 0, _ => rfl
        | 1, _ => rfl
        | 2, _ => rfl)).alloc _
    · exact ((Below.refl _ _).alloc (Nat.le_refl _) _).alloc (by simp) _
  case round =>
    obtain ⟨k, hk, rfl, hr, hz, hb⟩ := hrel
    clear hmk
    by_cases hlt : k < n
    · obtain ⟨b, o, rfl, hbb, hc⟩ := hA (by omega)
      have hc1 : wr.cell? ⟨b, o + k, none⟩ = some (.bool (l.getD k false)) := (hb.cell (p := ⟨b, o + k, none⟩) hbb).trans (hc k hlt)
      clear hc
      cases hx : l.getD k false with
      | false =>
        have hr1 := hr.congr (g := fun p => .int .u64 (Bt.part (l.take (k + 1)) p)) (fun p _ => by rw [Bt.part_take_succ _ _ _ (by have := Hl.out; omega), hx]; simp)
        rw [hx] at hc1
        clear hx
        go_wp2
        go_roundw
        case rel => exact ⟨k + 1, by omega, by go_num, hr1, hz, hb⟩
        case measure => simp [intOf]; omega
      | true =>
        rw [hx] at hc1
        have HX := Lib.hid hx
        clear hx
        have hq : k / 64 < n / 64 + 1 := by omega
        have hc2 := hr.cell hq
        have hf := hr.frozen (k / 64)
        go_wp2
        go_region
        all_goals
          go_wp2
          go_roundw
          case rel =>
            refine ⟨k + 1, by omega, by go_num, ?_, (hz.setOther (by simp) _).drew, (hb.setCell (by simp) _).drew⟩
            rw [or_bit _ _ (Bt.part_lt _ _) (by omega)]
            refine World.rowIs.drew ((hr.set (k / 64) _).congr (fun p _ => ?_))
            rw [Bt.part_take_succ _ _ _ (by have := Hl.out; omega), HX.out]
            by_cases hp : p = k / 64
            · subst hp; simp
            · rw [if_neg hp, if_neg (fun h => hp h.1)]
          case measure => simp [intOf]; omega
    · have hkn : k = n := by omega
      subst hkn
      have hP : Row wr wr.heap.size (some ⟨w.heap.size + 1, 0, none⟩) (k / 64 + 1) (fun p => .int .u64 (Bt.part (l.take k) p)) := Row.of_rowIs hr hr.lt
      clear hlt hA
      go_wp2_with fail
      refine (onesAhead_any _ _ _ (Bt.part (l.take k)) _ hP (Bt.part_lt _) (by omega)).mono ?_
      rintro e w1 ⟨g, rfl, hg, hrow, hb1⟩
      have hsz := hr.lt
      have z0 : w1.cell? ⟨w.heap.size, 0, none⟩ = some (.int .i64 0) := (hb1.cell (p := ⟨w.heap.size, 0, none⟩) (by simp; omega)).trans (hz.cell (by omega))
      have z1 : w1.cell? ⟨w.heap.size, 1, none⟩ = some (.slice none 0 0) := (hb1.cell (p := ⟨w.heap.size, 1, none⟩) (by simp; omega)).trans (hz.cell (by omega))
      have z2 : w1.cell? ⟨w.heap.size, 2, none⟩ = some (.slice none 0 0) := (hb1.cell (p := ⟨w.heap.size, 2, none⟩) (by simp; omega)).trans (hz.cell (by omega))
      have f0 : w1.frozen? ⟨w.heap.size, 0, none⟩ = false := (hb1.frozen (p := ⟨w.heap.size, 0, none⟩) (by simp; omega)).trans (hz.frozen _)
      have f1 : w1.frozen? ⟨w.heap.size, 1, none⟩ = false := (hb1.frozen (p := ⟨w.heap.size, 1, none⟩) (by simp; omega)).trans (hz.frozen _)
      have f2 : w1.frozen? ⟨w.heap.size, 2, none⟩ = false := (hb1.frozen (p := ⟨w.heap.size, 2, none⟩) (by simp; omega)).trans (hz.frozen _)
      go_wp2
      obtain ⟨s0, s1, s2⟩ := set3 (hz.of_block (hb1.block w.heap.size (by omega))) (.int .i64 k) (.slice (some ⟨w.heap.size + 1, 0, none⟩) (k / 64 + 1) (k / 64 + 1)) (.slice (some ⟨g, 0, none⟩) (k / 64 + 1) (k / 64 + 1))
      refine bodyPost_ret (v := .agg #[.int .i64 k, .slice (some ⟨w.heap.size + 1, 0, none⟩) (k / 64 + 1) (k / 64 + 1), .slice (some ⟨g, 0, none⟩) (k / 64 + 1) (k / 64 + 1)]) (by simp [results, Try.results11, go_sem, s0, s1, s2]) rfl ⟨w.heap.size + 1, g, rfl, by omega, Nat.le_trans hb.size hg, ?_, ?_⟩
      · have hr1 := ((((hr.of_block (hb1.block _ hsz)).setOther (a := ⟨w.heap.size, 0, none⟩) (by simp) (.int .i64 k)).setOther (a := ⟨w.heap.size, 1, none⟩) (by simp) (.slice (some ⟨w.heap.size + 1, 0, none⟩) (k / 64 + 1) (k / 64 + 1))).setOther (a := ⟨w.heap.size, 2, none⟩) (by simp) (.slice (some ⟨g, 0, none⟩) (k / 64 + 1) (k / 64 + 1)))
        have hr2 := ((hrow.setOther (a := ⟨w.heap.size, 0, none⟩) (by simp; omega) (.int .i64 k)).setOther (a := ⟨w.heap.size, 1, none⟩) (by simp; omega) (.slice (some ⟨w.heap.size + 1, 0, none⟩) (k / 64 + 1) (k / 64 + 1))).setOther (a := ⟨w.heap.size, 2, none⟩) (by simp; omega) (.slice (some ⟨g, 0, none⟩) (k / 64 + 1) (k / 64 + 1))
        have el : l.take k = l := List.take_of_length_le (by have := Hl.out; omega)
        rw [el] at hr1 hr2
        have hh := Hl.out
        subst hh
        exact ⟨Row.of_rowIs hr1 hr1.lt, (Row.of_rowIs hr2 hr2.lt).congr (fun i _ => by rw [psum_part])⟩
      · exact (((hb.trans (hb1.mono hb.size)).setCell (by simp) _).setCell (by simp) _).setCell (by simp) _

theorem make_any (A : Option Addr) (n c : Nat) (l : List Bool) (w : World) (hA : Row w w.heap.size A n (fun k => .bool (l.getD k false))) (hl : n = l.length) (hn : n ≤ 140737488355328) :
    Calls Try.prog 11 #[.slice A n c] w fun e w' =>
      ∃ g g2, e = .returned (.agg #[.int .i64 n, .slice (some ⟨g, 0, none⟩) (n / 64 + 1) (n / 64 + 1), .slice (some ⟨g2, 0, none⟩) (n / 64 + 1) (n / 64 + 1)]) ∧
        IsBits w' w'.heap.size (some ⟨g, 0, none⟩) (some ⟨g2, 0, none⟩) l ∧ Below w.heap.size w w' :=
  (make_new A n c l w hA hl hn).mono fun _ _ ⟨g, g2, h1, _, _, h2, h3⟩ => ⟨g, g2, h1, h2, h3⟩

end Go.Proofs.Ytgnakccbkglfpaa
