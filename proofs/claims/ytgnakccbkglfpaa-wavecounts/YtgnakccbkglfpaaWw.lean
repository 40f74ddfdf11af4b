/- The walk of the law WaveCounts. -/
import Derived.Test.YtgnakccbkglfpaaWu
namespace Go.Proofs.Ytgnakccbkglfpaa
open Go.RowKit
attribute [local irreducible] Bt.pop Bt.popF

set_option maxRecDepth 100000 in
set_option maxHeartbeats 1000000 in
theorem waveCounts_no (A : Option Addr) (n c : Nat) (d fr tu : Int) (w : World) (hM : Calls Try.prog 36 #[.slice A n c, .int .i64 d] w fun e w' => e = .returned (.tuple #[.agg #[.int .i64 0, .int .i64 0, .slice none 0 0], .bool false]) ∧ Below w.heap.size w w') :
    Calls Try.prog 9 #[.slice A n c, .int .i64 d, .int .i64 fr, .int .i64 tu] w fun e w' => e = .returned (.bool true) ∧ Below w.heap.size w w' := by
  have HM := Lib.hid hM
  have HW := Lib.hid (fun W => wavesK_any W)
  clear hM
  go_enter Try.func9, Try.ntmps9
  go_wp2_with fail
  with_reducible refine HM.out.mono ?_
  rintro e w1 ⟨rfl, hb1⟩
  have hb2 := hb1.alloc hb1.size (.cells #[.int .i64 0, .int .i64 0, .slice none 0 0] 45)
  clear HM
  go_wp2_with fail
  with_reducible refine (HW.out _).mono ?_
  rintro e w2 ⟨rfl, hb3⟩
  have hb4 := hb2.trans (hb3.mono hb2.size)
  clear HW
  go_wp2
  go_ret
  exact ⟨rfl, hb4⟩

set_option maxRecDepth 100000 in
set_option maxHeartbeats 1000000 in
theorem waveCounts_long (A : Option Addr) (c : Nat) (l : List Nat) (d : Nat) (fr tu : Int) (w : World) (hr : NRow w w.heap.size A l) (h1 : 1 ≤ d) (h16 : d ≤ 16) (hf : ∀ n ∈ l, n < 2 ^ d) (hs : l.length ≤ 17592186043904) (hl : 200 < l.length) :
    Calls Try.prog 9 #[.slice A l.length c, .int .i64 d, .int .i64 fr, .int .i64 tu] w fun e w' => e = .returned (.bool true) ∧ Below w.heap.size w w' := by
  have HM := Lib.hid (make_wave A c l d w hr h1 h16 hf hs)
  have HW := Lib.hid (fun W => wavesK_any W)
  have hz : (200 : Int) < (l.length : Int) := by omega
  clear hr hf
  generalize hN : l.length = N at *
  clear hN
  go_enter Try.func9, Try.ntmps9
  go_wp2_with fail
  with_reducible refine HM.out.mono ?_
  rintro e w1 ⟨A', c', rfl, _, _, hb1⟩
  have hb2 := hb1.alloc hb1.size (.cells #[.int .i64 N, .int .i64 d, .slice A' d c'] 45)
  clear HM
  go_wp2_with fail
  with_reducible refine (HW.out _).mono ?_
  rintro e w2 ⟨rfl, hb3⟩
  have hb4 := hb2.trans (hb3.mono hb2.size)
  clear HW
  go_wp2
  go_ret
  exact ⟨rfl, hb4⟩

theorem cl_is (N : Nat) (i : Int) : max 0 (min i (N : Int)) = (Wv.cl N i : Int) := by unfold Wv.cl; omega
theorem cl_self (N q : Nat) (h : q ≤ N) : Wv.cl N (q : Int) = q := by unfold Wv.cl; omega
/-- how many of x there are among the first q -/
def cN (l : List Nat) (x q : Nat) : Nat := (l.take q).count x
theorem LW.countN {w0 : World} {B N : Nat} {A : Option Addr} {d c : Nat} {l : List Nat} {W : World} (h : LW w0 B N A d c l W) (x q : Nat) (hq : q ≤ N) (hN : N ≤ 17592186044416) : Calls Try.prog 42 #[.agg #[.int .i64 N, .int .i64 d, .slice A d c], .int .i64 x, .int .i64 q] W fun e w' => e = .returned (.int .i64 (cN l x q : Nat)) ∧ LW w0 B N A d c l w' := by
  refine (h.count x q (by omega) (by omega)).mono fun e w' hh => ⟨?_, hh.2⟩
  rw [hh.1]
  unfold countI cN
  rw [if_pos (by omega), Int.toNat_natCast, ← h.len, cl_self N q hq]
/-- sums of what there is more of, kind by kind -/
def sumK (l K : List Nat) (i j t : Nat) : Nat := ((K.take t).map (Wv.more l i j)).sum
theorem sumK_succ (l K : List Nat) (i j t : Nat) (h : t < K.length) : sumK l K i j (t + 1) = sumK l K i j t + Wv.more l i j (K.getD t 0) := by
  unfold sumK
  rw [List.take_succ_eq_append_getElem h, List.map_append, List.sum_append_nat, show K.getD t 0 = K[t] from by simp [h]]
  simp
theorem sumK_le (l : List Nat) (i j d t : Nat) (hf : ∀ n ∈ l, n < 2 ^ d) (hj : j ≤ l.length) : sumK l (Wv.kinds l i j (2 ^ d)) i j t ≤ l.length := by
  have h := Wv.sum_take_le ((Wv.kinds l i j (2 ^ d)).map (Wv.more l i j)) t
  rw [Wv.kinds_sum l i j (2 ^ d) hf hj, ← List.map_take] at h
  unfold sumK; omega
theorem sumK_all (l : List Nat) (i j d : Nat) (hf : ∀ n ∈ l, n < 2 ^ d) (hj : j ≤ l.length) : sumK l (Wv.kinds l i j (2 ^ d)) i j (Wv.kinds l i j (2 ^ d)).length = j - i := by
  unfold sumK
  rw [List.take_length]
  exact Wv.kinds_sum l i j (2 ^ d) hf hj
/-- the last kind so far -/
def lastK (K : List Nat) (t : Nat) : Int := if t = 0 then -1 else ((K.getD (t - 1) 0 : Nat) : Int)
theorem lastK_lt (K : List Nat) (hK : K.Pairwise (· < ·)) (t : Nat) (h : t < K.length) : lastK K t < ((K.getD t 0 : Nat) : Int) := by
  unfold lastK
  by_cases h0 : t = 0
  · rw [if_pos h0]; omega
  · rw [if_neg h0]
    have := List.pairwise_iff_getElem.1 hK (t - 1) t (by omega) h (by omega)
    rw [show K.getD (t - 1) 0 = K[t - 1] from by rw [List.getD_eq_getElem?_getD, List.getElem?_eq_getElem (by omega)]; rfl, show K.getD t 0 = K[t] from by rw [List.getD_eq_getElem?_getD, List.getElem?_eq_getElem h]; rfl]
    omega

end Go.Proofs.Ytgnakccbkglfpaa
