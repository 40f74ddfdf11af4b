/- What bits.within, At, Ones and Noughts answer, of whatever bits. -/
import Derived.Test.YtgnakccbkglfpaaLv
import Derived.Test.YtgnakccbkglfpaaMe
import Derived.Test.YtgnakccbkglfpaaMb
import Derived.Deep.QuietTactic
import Derived.BigQuiet
import Derived.Deep.RegionWith
namespace Go.Proofs.Ytgnakccbkglfpaa
open Go.RowKit

/-- the value of bits -/
def bitsV (n : Int) (A : Option Addr) (np cp : Nat) (A2 : Option Addr) (na ca : Nat) : Value := .agg #[.int .i64 n, .slice A np cp, .slice A2 na ca]

theorem ret_bool {a b : Bool} (h : a = b) : Ending.returned (.bool a) = .returned (.bool b) := by rw [h]
theorem bit_one (p k : Nat) (hp : p < 18446744073709551616) : (bits .and .u64 ((p : Int) / 2 ^ k) 1 == 1) = (p / 2 ^ k % 2 == 1) := by
  have e : ((p : Int) / 2 ^ k) = ((p / 2 ^ k : Nat) : Int) := by simp
  have hle : p / 2 ^ k ≤ p := Nat.div_le_self _ _
  rw [e, show (1 : Int) = ((1 : Nat) : Int) from rfl, bits_and_u64_nat _ _ (by omega) (by decide), Nat.and_one_is_mod]
  rw [Bool.eq_iff_iff]; simp only [beq_iff_eq]; omega

set_option maxHeartbeats 400000 in
theorem within_any (n i : Int) (A : Option Addr) (np cp : Nat) (A2 : Option Addr) (na ca : Nat) (w : World) :
    Calls Try.prog 49 #[.agg #[.int .i64 n, .slice A np cp, .slice A2 na ca], .int .i64 i] w fun e w' => e = .returned (.int .i64 (max (min i n) 0)) ∧ Below w.heap.size w w' := by
  go_enter Try.func49, Try.ntmps49
  go_wp2
  all_goals
    go_ret
    exact ⟨ret_int (by simp only [Int.max_def, Int.min_def]; repeat' split <;> omega), (Below.refl _ _).alloc (Nat.le_refl _) _⟩

set_option maxHeartbeats 400000 in
theorem at_neg (n i : Int) (A : Option Addr) (np cp : Nat) (A2 : Option Addr) (na ca : Nat) (w : World) (h : i < 0) :
    Calls Try.prog 15 #[.agg #[.int .i64 n, .slice A np cp, .slice A2 na ca], .int .i64 i] w fun e w' => e = .returned (.bool false) ∧ Below w.heap.size w w' := by
  go_enter Try.func15, Try.ntmps15
  go_wp2
  go_ret
  exact ⟨rfl, (Below.refl _ _).alloc (Nat.le_refl _) _⟩

set_option maxHeartbeats 400000 in
theorem at_past (n i : Int) (A : Option Addr) (np cp : Nat) (A2 : Option Addr) (na ca : Nat) (w : World) (h : 0 ≤ i) (hn : n ≤ i) :
    Calls Try.prog 15 #[.agg #[.int .i64 n, .slice A np cp, .slice A2 na ca], .int .i64 i] w fun e w' => e = .returned (.bool false) ∧ Below w.heap.size w w' := by
  go_enter Try.func15, Try.ntmps15
  go_wp2
  go_ret
  exact ⟨rfl, (Below.refl _ _).alloc (Nat.le_refl _) _⟩

set_option maxHeartbeats 400000 in
theorem at_short (n i : Int) (A : Option Addr) (np cp : Nat) (A2 : Option Addr) (na ca : Nat) (w : World) (h : 0 ≤ i) (hn : i < n) (hn2 : n ≤ 9223372036854775807) (hs : (np : Int) ≤ i / 64) :
    Calls Try.prog 15 #[.agg #[.int .i64 n, .slice A np cp, .slice A2 na ca], .int .i64 i] w fun e w' => e = .returned (.bool false) ∧ Below w.heap.size w w' := by
  go_enter Try.func15, Try.ntmps15
  go_wp2
  go_ret
  exact ⟨rfl, (Below.refl _ _).alloc (Nat.le_refl _) _⟩

set_option maxHeartbeats 400000 in
theorem at_in (n : Int) (i : Nat) (A : Option Addr) (np cp : Nat) (A2 : Option Addr) (na ca : Nat) (w : World) (P : Nat → Nat) (hP : Row w w.heap.size A np (fun k => .int .u64 (P k))) (hP2 : ∀ k, P k < 18446744073709551616)
    (hn : (i : Int) < n) (hn2 : n ≤ 9223372036854775807) (hs : i / 64 < np) :
    Calls Try.prog 15 #[.agg #[.int .i64 n, .slice A np cp, .slice A2 na ca], .int .i64 i] w fun e w' => e = .returned (.bool (P (i / 64) / 2 ^ (i % 64) % 2 == 1)) ∧ Below w.heap.size w w' := by
  obtain ⟨b, o, rfl, hb, hc⟩ := hP (by omega)
  have hc1 := hc (i / 64) hs
  clear hc
  go_enter Try.func15, Try.ntmps15
  go_wp2
  go_ret
  exact ⟨ret_bool (bit_one _ _ (hP2 _)), (Below.refl _ _).alloc (Nat.le_refl _) _⟩

theorem bcell {W w1 : World} {B : Nat} (hb : Below B W w1) : (∀ b o, b < B → w1.cell? ⟨b, o, none⟩ = W.cell? ⟨b, o, none⟩) :=
  fun b o h => hb.cell (p := ⟨b, o, none⟩) h

/-- the place that is asked for, moved to the nearest one from 0 to n -/
def near (n i : Int) : Nat := (max (min i n) 0).toNat
theorem near_cast (n i : Int) : max (min i n) 0 = (near n i : Int) := by unfold near; omega

set_option maxHeartbeats 400000 in
theorem ones_in (n i : Int) (A : Option Addr) (np cp : Nat) (A2 : Option Addr) (na ca : Nat) (w : World) (P : Nat → Nat) (a : Nat → Int)
    (hP : Row w w.heap.size A np (fun k => .int .u64 (P k))) (hP2 : ∀ k, P k < 18446744073709551616) (ha : Row w w.heap.size A2 na (fun k => .int .i64 (a k)))
    (hn2 : n ≤ 9223372036854775807) (hs : near n i / 64 < np) (hs2 : near n i / 64 < na) :
    Calls Try.prog 16 #[.agg #[.int .i64 n, .slice A np cp, .slice A2 na ca], .int .i64 i] w fun e w' =>
      e = .returned (.int .i64 (wrap64 (a (near n i / 64) + Bt.pop (P (near n i / 64) % 2 ^ (near n i % 64))))) ∧ Below w.heap.size w w' := by
  obtain ⟨b, o, rfl, hb, hc⟩ := hP (by omega)
  obtain ⟨b2, o2, rfl, hb2, hc2⟩ := ha (by omega)
  have hc := hc (near n i / 64) hs
  have hc2 := hc2 (near n i / 64) hs2
  have hj := near_cast n i
  have hj2 : near n i ≤ 9223372036854775807 := by unfold near; omega
  generalize near n i = j at *
  have H := Lib.hid hj
  clear hj hP ha
  go_enter Try.func16, Try.ntmps16
  go_wp2_with fail
  refine (within_any _ _ _ _ _ _ _ _ _).mono ?_
  rintro e w1 ⟨rfl, hb1⟩
  rw [H.out]
  simp only [World.size_alloc] at hb1
  have k1 : w1.cell? ⟨w.heap.size, 0, none⟩ = some (.int .i64 n) := by rw [bcell hb1 _ _ (by omega)]; simp
  have k2 : w1.cell? ⟨w.heap.size, 1, none⟩ = some (.slice (some ⟨b, o, none⟩) np cp) := by rw [bcell hb1 _ _ (by omega)]; simp
  have k3 : w1.cell? ⟨w.heap.size, 2, none⟩ = some (.slice (some ⟨b2, o2, none⟩) na ca) := by rw [bcell hb1 _ _ (by omega)]; simp
  have k4 : w1.cell? ⟨b, o + j / 64, none⟩ = some (.int .u64 (P (j / 64))) := by rw [bcell hb1 _ _ (by omega), ← hc]; exact World.cell?_alloc_lt _ _ _ hb
  have k5 : w1.cell? ⟨b2, o2 + j / 64, none⟩ = some (.int .i64 (a (j / 64))) := by rw [bcell hb1 _ _ (by omega), ← hc2]; exact World.cell?_alloc_lt _ _ _ hb2
  go_wp2_with fail
  go_quiet (first | (go_at_call 51; exact quiet_eq (lowest_any _ _ (by omega) (by omega))) | (go_at_call 50; exact quiet_eq (ones64_int _ _ (and_u64_lo _ _) (and_u64_hi _ _))))
  go_wp2
  go_ret
  refine ⟨ret_int (by rw [and_low _ _ (hP2 _) (by omega), Int.toNat_natCast]), ?_⟩
  exact Below.drewN (((Below.refl _ _).alloc (Nat.le_refl _) _).trans (hb1.mono (by omega))) _

/-- Bits as Make makes them of a list: the two slices' addresses, in a world. -/
structure IsBits (w : World) (B : Nat) (A A2 : Option Addr) (l : List Bool) : Prop where
  parts : Row w B A (l.length / 64 + 1) (fun k => .int .u64 (Bt.part l k))
  ahead : Row w B A2 (l.length / 64 + 1) (fun k => .int .i64 (Bt.ahd l k))
theorem IsBits.below {w w' : World} {B : Nat} {A A2 : Option Addr} {l : List Bool} (h : IsBits w B A A2 l) (hb : Below B w w') : IsBits w' B A A2 l := ⟨h.parts.below hb, h.ahead.below hb⟩
theorem IsBits.more {w : World} {B B' : Nat} {A A2 : Option Addr} {l : List Bool} (h : IsBits w B A A2 l) (hB : B ≤ B') : IsBits w B' A A2 l := ⟨h.parts.more hB, h.ahead.more hB⟩
theorem IsBits.alloc {w : World} {A A2 : Option Addr} {l : List Bool} (h : IsBits w w.heap.size A A2 l) (o : Obj) : IsBits (w.alloc o) (w.alloc o).heap.size A A2 l :=
  (h.below ((Below.refl _ _).alloc (Nat.le_refl _) _)).more (by simp)

theorem near_le (n i : Int) (h : 0 ≤ n) : (near n i : Int) ≤ n := by unfold near; omega

theorem at_made (l : List Bool) (i : Int) (A : Option Addr) (np cp : Nat) (A2 : Option Addr) (na ca : Nat) (w : World) (hI : IsBits w w.heap.size A A2 l) (hp : np = l.length / 64 + 1) (hl : l.length ≤ 9223372036854775807) :
    Calls Try.prog 15 #[.agg #[.int .i64 l.length, .slice A np cp, .slice A2 na ca], .int .i64 i] w fun e w' =>
      e = .returned (.bool (decide (0 ≤ i) && l.getD i.toNat false)) ∧ Below w.heap.size w w' := by
  by_cases h0 : i < 0
  · rw [show decide (0 ≤ i) = false from by simp; omega]
    exact at_neg _ _ _ _ _ _ _ _ _ h0
  · obtain ⟨k, rfl⟩ := Int.eq_ofNat_of_zero_le (show 0 ≤ i by omega)
    rw [show decide (0 ≤ (k : Int)) = true from by simp, Int.toNat_natCast, Bool.true_and]
    by_cases h1 : k < l.length
    · rw [← Bt.bit_at]
      subst hp
      exact at_in _ k _ _ _ _ _ _ _ (Bt.part l) hI.parts (Bt.part_lt l) (by omega) (by omega) (by omega)
    · rw [show l.getD k false = false from by rw [List.getD_eq_getElem?_getD, List.getElem?_eq_none (by omega)]; rfl]
      exact at_past _ _ _ _ _ _ _ _ _ (by omega) (by omega)

theorem wrap64_in (x : Int) (h1 : -9223372036854775808 ≤ x) (h2 : x ≤ 9223372036854775807) : wrap64 x = x := by unfold wrap64; omega

theorem ones_made (l : List Bool) (i : Int) (A : Option Addr) (np cp : Nat) (A2 : Option Addr) (na ca : Nat) (w : World) (hI : IsBits w w.heap.size A A2 l) (hp : np = l.length / 64 + 1) (ha : na = l.length / 64 + 1) (hl : l.length ≤ 9223372036854775807) :
    Calls Try.prog 16 #[.agg #[.int .i64 l.length, .slice A np cp, .slice A2 na ca], .int .i64 i] w fun e w' =>
      e = .returned (.int .i64 (Bt.ones (l.take i.toNat))) ∧ Below w.heap.size w w' := by
  subst hp ha
  have hnl := near_le l.length i (by omega)
  refine (ones_in _ i _ _ _ _ _ _ _ (Bt.part l) (fun k => (Bt.ahd l k : Nat)) hI.parts (Bt.part_lt l) hI.ahead (by omega) (by omega) (by omega)).mono ?_
  rintro e w' ⟨rfl, hb⟩
  refine ⟨ret_int ?_, hb⟩
  have e1 : l.take i.toNat = l.take (near l.length i) := by
    rw [List.take_eq_take_iff]
    unfold near; omega
  have e2 := Bt.ones_take l (near l.length i)
  have e3 := Bt.ones_le (l.take (near l.length i))
  have e4 : (l.take (near l.length i)).length ≤ l.length := by simp; omega
  rw [e1, wrap64_in _ (by omega) (by omega)]
  omega

/-- the three cells of a boxed struct are there still -/
theorem box3 {w w1 : World} {a b c : Value} {t : TypeId} (hb : Below ((w.alloc (.cells #[a, b, c] t)).drew).heap.size ((w.alloc (.cells #[a, b, c] t)).drew) w1) :
    w1.cell? ⟨w.heap.size, 0, none⟩ = some a ∧ w1.cell? ⟨w.heap.size, 1, none⟩ = some b ∧ w1.cell? ⟨w.heap.size, 2, none⟩ = some c ∧ Below w.heap.size w w1 ∧ w.heap.size + 1 ≤ w1.heap.size := by
  have hs : ((w.alloc (.cells #[a, b, c] t)).drew).heap.size = w.heap.size + 1 := by simp
  rw [hs] at hb
  refine ⟨?_, ?_, ?_, ((Below.refl _ w).alloc (Nat.le_refl _) _).drew.trans (hb.mono (by omega)), by have := hb.size; simp at this; omega⟩
  · rw [bcell hb _ _ (by omega)]; simp
  · rw [bcell hb _ _ (by omega)]; simp
  · rw [bcell hb _ _ (by omega)]; simp
theorem box3N {w w1 : World} {a b c : Value} {t : TypeId} {q : Nat} (hb : Below ((w.alloc (.cells #[a, b, c] t)).drewN q).heap.size ((w.alloc (.cells #[a, b, c] t)).drewN q) w1) :
    w1.cell? ⟨w.heap.size, 0, none⟩ = some a ∧ w1.cell? ⟨w.heap.size, 1, none⟩ = some b ∧ w1.cell? ⟨w.heap.size, 2, none⟩ = some c ∧ Below w.heap.size w w1 ∧ w.heap.size + 1 ≤ w1.heap.size := by
  have hs : ((w.alloc (.cells #[a, b, c] t)).drewN q).heap.size = w.heap.size + 1 := by simp
  rw [hs] at hb
  refine ⟨?_, ?_, ?_, (Below.drewN ((Below.refl _ w).alloc (Nat.le_refl _) _) q).trans (hb.mono (by omega)), by have := hb.size; simp at this; omega⟩
  · rw [bcell hb _ _ (by omega)]; simp
  · rw [bcell hb _ _ (by omega)]; simp
  · rw [bcell hb _ _ (by omega)]; simp

set_option maxHeartbeats 1000000 in
theorem noughts_made (l : List Bool) (i : Int) (A : Option Addr) (np cp : Nat) (A2 : Option Addr) (na ca : Nat) (w : World) (hI : IsBits w w.heap.size A A2 l) (hp : np = l.length / 64 + 1) (ha : na = l.length / 64 + 1) (hl : l.length ≤ 9223372036854775807) :
    Calls Try.prog 18 #[.agg #[.int .i64 l.length, .slice A np cp, .slice A2 na ca], .int .i64 i] w fun e w' =>
      e = .returned (.int .i64 (near l.length i - Bt.ones (l.take i.toNat))) ∧ Below w.heap.size w w' := by
  subst hp ha
  go_enter Try.func18, Try.ntmps18
  go_wp2_with fail
  go_region_with (first
    | (go_at_call 49; refine (within_any _ _ _ _ _ _ _ _ _).mono ?_; rintro e w1 ⟨rfl, hb1⟩; obtain ⟨k1, k2, k3, hb2, _⟩ := box3 hb1; clear hb1)
    | (go_at_call 16; refine (ones_made l i _ _ _ _ _ _ _ ?_ rfl rfl hl).mono ?_; (exact (hI.below hb2).more hb2.size); rintro e w2 ⟨rfl, hb3⟩))
  all_goals
    go_wp2
    go_ret
    refine ⟨ret_int ?_, hb2.trans (hb3.mono hb2.size)⟩
    have q1 := Bt.ones_le (l.take i.toNat)
    have q2 : (l.take i.toNat).length ≤ l.length := by simp; omega
    have q3 := near_cast l.length i
    have q4 := near_le l.length i (by omega)
    simp only [q3]
    first
      | rfl
      | (rw [IntKind.wrap_i64]; omega)
      | (unfold wrap64; omega)

end Go.Proofs.Ytgnakccbkglfpaa
