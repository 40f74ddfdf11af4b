/- isShaped, isNotGood and Good of package wave. -/
import Derived.Test.YtgnakccbkglfpaaWe
import Derived.Shelf.Abstract
namespace Go.Proofs.Ytgnakccbkglfpaa
open Go.RowKit
attribute [local irreducible] Bt.pop Bt.popF

set_option maxHeartbeats 400000 in
theorem isOther_any (B : Nat) (N x : Int) (A1 A2 : Option Addr) (m1 c1 m2 c2 : Nat) (w : World) (hB : w.cell? ⟨B, 0, none⟩ = some (.int .i64 N)) (hlt : B < w.heap.size) :
    Calls Try.prog 84 #[.agg #[.int .i64 x, .slice A1 m1 c1, .slice A2 m2 c2], .pointer (some ⟨B, 0, none⟩)] w fun e w' => e = .returned (.bool (x != N)) ∧ Below w.heap.size w w' := by
  have h2 : (w.alloc (.cells #[.int .i64 x, .slice A1 m1 c1, .slice A2 m2 c2] 27)).cell? ⟨B, 0, none⟩ = some (.int .i64 N) := by rw [World.cell?_alloc_lt _ _ _ hlt]; exact hB
  go_enter Try.func84, Try.ntmps84
  go_wp2
  go_ret
  exact ⟨rfl, (Below.refl _ _).alloc (Nat.le_refl _) _⟩

set_option maxHeartbeats 400000 in
theorem isNotGood_made (bs : List Bool) (A1 A2 : Option Addr) (c1 c2 : Nat) (w : World) (hI : IsBits w w.heap.size A1 A2 bs) (hs : bs.length ≤ 17592186044416) :
    Calls Try.prog 74 #[.agg #[.int .i64 bs.length, .slice A1 (bs.length / 64 + 1) c1, .slice A2 (bs.length / 64 + 1) c2]] w fun e w' => e = .returned (.bool false) ∧ Below w.heap.size w w' := by
  have HG := Lib.hid (fun t => good_made bs A1 (bs.length / 64 + 1) c1 A2 (bs.length / 64 + 1) c2 (w.alloc (.cells #[.int .i64 bs.length, .slice A1 (bs.length / 64 + 1) c1, .slice A2 (bs.length / 64 + 1) c2] t)) (hI.alloc _) rfl rfl (by omega))
  clear hI
  generalize bs.length / 64 + 1 = m at *
  generalize (bs.length : Int) = N at *
  go_enter Try.func74, Try.ntmps74
  go_wp2_with fail
  with_reducible refine (HG.out _).mono ?_
  rintro e w' ⟨rfl, hb⟩
  have hb2 := ((Below.refl w.heap.size w).alloc (Nat.le_refl _) (.cells #[.int .i64 N, .slice A1 m c1, .slice A2 m c2] 27)).trans (hb.mono (by simp))
  go_wp2
  go_ret
  exact ⟨rfl, hb2⟩

/-- is the shape such that it may be a wave? -/
def shapeOk (D : Int) (n : Nat) (N : Int) (f : Nat → Int) : Bool := deepOk D && (decide ((n : Int) = D) && !anyQ (fun k => f k != N) n)

set_option maxHeartbeats 1000000 in
theorem isShaped_any (N D : Int) (A : Option Addr) (n c : Nat) (f : Nat → Int) (a1 a2 : Nat → Option Addr) (m1 k1 m2 k2 : Nat → Nat) (w : World)
    (hr : Row3 w w.heap.size A n (fun k => .int .i64 (f k)) (fun k => .slice (a1 k) (m1 k) (k1 k)) (fun k => .slice (a2 k) (m2 k) (k2 k))) (hn : n < 4611686018427387904) :
    Calls Try.prog 72 #[.agg #[.int .i64 N, .int .i64 D, .slice A n c]] w fun e w' => e = .returned (.bool (shapeOk D n N f)) ∧ Below w.heap.size w w' := by
  have hb0 : Below w.heap.size w (w.alloc (.cells #[.int .i64 N, .int .i64 D, .slice A n c] 45)) := (Below.refl _ _).alloc (Nat.le_refl _) _
  have HM := Lib.hid (fun W => mayBeDeep_any D W)
  have HC := Lib.hid (containsBits_any 84 #[.pointer (some ⟨w.heap.size, 0, none⟩)] A n c (fun k => .int .i64 (f k)) (fun k => .slice (a1 k) (m1 k) (k1 k)) (fun k => .slice (a2 k) (m2 k) (k2 k)) (fun k => f k != N)
    (w.alloc (.cells #[.int .i64 N, .int .i64 D, .slice A n c] 45)) (enters_of Try.func84 (by kernel_rfl) rfl) (hr.on hb0) (fun _ => rfl) (fun _ => rfl) (fun _ => rfl)
    (fun W hW k _ => isOther_any w.heap.size N (f k) (a1 k) (a2 k) (m1 k) (k1 k) (m2 k) (k2 k) W ((hW.cell (p := ⟨w.heap.size, 0, none⟩) (by simp)).trans (by simp)) (by have := hW.size; simp at this; omega)) hn)
  clear hr
  unfold shapeOk
  generalize anyQ (fun k => f k != N) n = r at *
  cases hd : deepOk D
  · rw [hd] at HM
    go_enter Try.func72, Try.ntmps72
    go_wp2_with fail
    with_reducible refine (HM.out _).mono ?_
    rintro e w' ⟨rfl, rfl⟩
    go_wp2
    go_ret
    exact ⟨rfl, hb0⟩
  · rw [hd] at HM
    by_cases hnd : (n : Int) = D
    · have hq : ((n : Int) == D) = true := by simp [hnd]
      have HD := Lib.hid (show decide ((n : Int) = D) = true by simp [hnd])
      clear hnd hd
      go_enter Try.func72, Try.ntmps72
      go_wp2_with fail
      with_reducible refine (HM.out _).mono ?_
      rintro e w' ⟨rfl, rfl⟩
      go_wp2_with fail
      with_reducible refine HC.out.mono ?_
      rintro e w' ⟨rfl, hb⟩
      have hb2 := hb0.trans (hb.mono (by simp))
      go_wp2
      go_ret
      exact ⟨by rw [HD.out]; rfl, hb2⟩
    · have hq : ((n : Int) == D) = false := by simp [hnd]
      have HD := Lib.hid (show decide ((n : Int) = D) = false by simp [hnd])
      clear hnd hd
      go_enter Try.func72, Try.ntmps72
      go_wp2_with fail
      with_reducible refine (HM.out _).mono ?_
      rintro e w' ⟨rfl, rfl⟩
      go_wp2
      go_ret
      exact ⟨by rw [HD.out]; rfl, hb0⟩

end Go.Proofs.Ytgnakccbkglfpaa
