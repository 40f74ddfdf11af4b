/- The walk of the law WaveTells. -/
import Derived.Test.YtgnakccbkglfpaaWz
import Derived.Test.YtgnakccbkglfpaaXa
import Derived.Test.YtgnakccbkglfpaaXb
import Derived.Test.YtgnakccbkglfpaaXc
import Derived.Test.YtgnakccbkglfpaaRt
import Derived.Test.YtgnakccbkglfpaaAq
namespace Go.Proofs.Ytgnakccbkglfpaa
open Go.RowKit
attribute [local irreducible] Bt.pop Bt.popF

set_option maxRecDepth 100000 in
set_option maxHeartbeats 1000000 in
theorem waveTells_long (A : Option Addr) (n c : Nat) (d x i k : Int) (w : World) (hl : 200 < n) :
    Calls Try.prog 8 #[.slice A n c, .int .i64 d, .int .i64 x, .int .i64 i, .int .i64 k] w fun e w' => e = .returned (.bool true) ∧ Below w.heap.size w w' := by
  have HW := Lib.hid (wavesL_any w)
  have hz : (200 : Int) < (n : Int) := by omega
  go_enter Try.func8, Try.ntmps8
  go_wp2_with fail
  with_reducible refine HW.out.mono ?_
  rintro e w2 ⟨rfl, hb3⟩
  clear HW
  go_wp2
  go_ret
  exact ⟨rfl, hb3⟩

set_option maxRecDepth 100000 in
set_option maxHeartbeats 1000000 in
theorem waveTells_deep (A : Option Addr) (c : Nat) (l : List Int) (d x i k : Int) (w : World) (hr : IRow w w.heap.size A l) (hl : l.length ≤ 200) (hd : 11 < d) (hF : fitsI l d = true) :
    Calls Try.prog 8 #[.slice A l.length c, .int .i64 d, .int .i64 x, .int .i64 i, .int .i64 k] w fun e w' => e = .returned (.bool true) ∧ Below w.heap.size w w' := by
  have HW := Lib.hid (wavesL_any w)
  have HF := Lib.hid (fits_any A c l d w hr (by omega))
  rw [hF] at HF
  have hz : ¬ (200 : Int) < (l.length : Int) := by omega
  clear hF hr
  generalize l.length = n at *
  go_enter Try.func8, Try.ntmps8
  go_wp2_with fail
  with_reducible refine HF.out.mono ?_
  rintro e w1 ⟨rfl, rfl⟩
  clear HF
  go_wp2_with fail
  with_reducible refine HW.out.mono ?_
  rintro e w2 ⟨rfl, hb3⟩
  clear HW
  go_wp2
  go_ret
  exact ⟨rfl, hb3⟩

set_option maxRecDepth 100000 in
set_option maxHeartbeats 2000000 in
theorem waveTells_no (A : Option Addr) (c : Nat) (l : List Int) (d x i k : Int) (w : World) (hr : IRow w w.heap.size A l) (hl : l.length ≤ 200) (hF : fitsI l d = false)
    (hM : ∀ (W : World) (A' : Option Addr) (c' : Nat), IRow W W.heap.size A' l → Calls Try.prog 36 #[.slice A' l.length c', .int .i64 d] W fun e w' => e = .returned (.tuple #[.agg #[.int .i64 0, .int .i64 0, .slice none 0 0], .bool false]) ∧ Below W.heap.size W w') :
    Calls Try.prog 8 #[.slice A l.length c, .int .i64 d, .int .i64 x, .int .i64 i, .int .i64 k] w fun e w' => e = .returned (.bool true) ∧ Below w.heap.size w w' := by
  have HW := Lib.hid (fun W => wavesL_any W)
  have HF := Lib.hid (fun (W : World) (hb : Below w.heap.size w W) => fits_any A c l d W (hr.on hb) (by omega))
  rw [hF] at HF
  have HM := Lib.hid hM
  have HR : Hid (Row w w.heap.size A l.length (fun i => .int .i64 (l.getD i 0))) := Lib.hid hr
  have hz : ¬ (200 : Int) < (l.length : Int) := by omega
  have HRI : Hid (∀ (W : World) (A' : Option Addr), Row W W.heap.size A' l.length (fun i => .int .i64 (l.getD i 0)) → IRow W W.heap.size A' l) := Lib.hid fun W A' h => h
  clear hF hr hM
  generalize l.length = n at *
  have hmx : n ≤ maxLen := by unfold maxLen; omega
  by_cases hd : 11 < d
  · go_enter Try.func8, Try.ntmps8
    go_wp2_with fail
    with_reducible refine (HF.out _ (Below.refl _ _)).mono ?_
    rintro e w1 ⟨rfl, rfl⟩
    go_wp2_with (at_builtin; refine wpList_copy_nil _ rfl _ _ 25 rfl 3 (.int .i64 0) 8 Try.underlying25 infoInt4 rfl A n c (fun i => .int .i64 (l.getD i 0)) rfl rfl HR.out (fun _ _ => rfl) hmx (by omega) ?_; intro A' c' w1 hr1 hb1)
    with_reducible refine (HM.out _ _ _ (HRI.out _ _ hr1)).mono ?_
    rintro e w2 ⟨rfl, hb2⟩
    have hb3 := hb1.trans (hb2.mono hb1.size)
    have hb4 := hb3.alloc hb3.size (.cells #[.int .i64 0, .int .i64 0, .slice none 0 0] 45)
    clear hb1 hb2 hb3 hr1 HM HR HRI
    go_wp2_with fail
    with_reducible refine (HF.out _ hb4).mono ?_
    rintro e w3 ⟨rfl, rfl⟩
    clear HF
    go_wp2_with fail
    with_reducible refine (HW.out _).mono ?_
    rintro e w4 ⟨rfl, hb5⟩
    have hb6 := hb4.trans (hb5.mono hb4.size)
    clear HW hb4 hb5
    go_wp2
    go_ret
    exact ⟨rfl, hb6⟩
  · go_enter Try.func8, Try.ntmps8
    go_wp2_with (at_builtin; refine wpList_copy_nil _ rfl _ _ 25 rfl 3 (.int .i64 0) 8 Try.underlying25 infoInt4 rfl A n c (fun i => .int .i64 (l.getD i 0)) rfl rfl HR.out (fun _ _ => rfl) hmx (by omega) ?_; intro A' c' w1 hr1 hb1)
    with_reducible refine (HM.out _ _ _ (HRI.out _ _ hr1)).mono ?_
    rintro e w2 ⟨rfl, hb2⟩
    have hb3 := hb1.trans (hb2.mono hb1.size)
    have hb4 := hb3.alloc hb3.size (.cells #[.int .i64 0, .int .i64 0, .slice none 0 0] 45)
    clear hb1 hb2 hb3 hr1 HM HR HRI
    go_wp2_with fail
    with_reducible refine (HF.out _ hb4).mono ?_
    rintro e w3 ⟨rfl, rfl⟩
    clear HF
    go_wp2_with fail
    with_reducible refine (HW.out _).mono ?_
    rintro e w4 ⟨rfl, hb5⟩
    have hb6 := hb4.trans (hb5.mono hb4.size)
    clear HW hb4 hb5
    go_wp2
    go_ret
    exact ⟨rfl, hb6⟩

theorem sameInts_nat (X Y : Option Addr) (cx cy : Nat) (K : List Nat) (w : World) (hX : NRow w w.heap.size X K) (hY : NRow w w.heap.size Y K) (hK : K.length ≤ 65536) :
    Calls Try.prog 25 #[.slice X K.length cx, .slice Y K.length cy] w fun e w' => e = .returned (.bool true) ∧ Below w.heap.size w w' := by
  have h := sameInts_ints X Y cx cy (K.map fun (n : Nat) => (n : Int)) (K.map fun (n : Nat) => (n : Int)) w hX.ints hY.ints (by rw [List.length_map]; omega)
  rw [List.length_map] at h
  refine h.mono ?_
  rintro e w' ⟨rfl, q, rfl⟩
  exact ⟨by simp, Below.drewN (Below.refl _ _) q⟩

end Go.Proofs.Ytgnakccbkglfpaa
