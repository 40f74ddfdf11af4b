/- The small function that both sets of statements call: does bits answer at all? -/
import Derived.Test.YtgnakccbkglfpaaBi
namespace Go.Proofs.Ytgnakccbkglfpaa
open Go.RowKit
attribute [local irreducible] Bt.pop Bt.popF

def tft : List Bool := [true, false, true]
theorem find_tft (v : Int) (h : FindIs tft 1 v) : v = 2 := by
  rcases h with ⟨rfl, h | h⟩ | ⟨i, rfl, h1, h2⟩
  · omega
  · have : Bt.ones tft = 2 := by decide
    omega
  · match i, h1, h2 with
    | 0, _, h2 => have : Bt.ones (tft.take 0) = 0 := by decide
                  omega
    | 1, h1, _ => exact absurd h1 (by decide)
    | 2, _, _ => rfl
    | j + 3, h1, _ => simp [tft] at h1

theorem make_tft (w : World) : Calls Try.prog 11 #[.slice (some ⟨w.heap.size, 0, none⟩) 3 3] (w.alloc (.cells #[.bool true, .bool false, .bool true] 4)) fun e w' =>
    ∃ g g2, e = .returned (.agg #[.int .i64 3, .slice (some ⟨g, 0, none⟩) 1 1, .slice (some ⟨g2, 0, none⟩) 1 1]) ∧ IsBits w' w'.heap.size (some ⟨g, 0, none⟩) (some ⟨g2, 0, none⟩) tft ∧ Below w.heap.size w w' := by
  refine (make_any _ 3 3 tft _ ?_ rfl (by omega)).mono ?_
  · intro _
    refine ⟨w.heap.size, 0, rfl, by simp, fun i hi => ?_⟩
    match i, hi with
    | 0, _ => simp [tft]
    | 1, _ => simp [tft]
    | 2, _ => simp [tft]
  · rintro e w1 ⟨g, g2, rfl, hI, hb⟩
    exact ⟨g, g2, rfl, hI, ((Below.refl _ _).alloc (Nat.le_refl _) _).trans (hb.mono (by simp))⟩
theorem good_tft (A A2 : Option Addr) (w : World) (hI : IsBits w w.heap.size A A2 tft) : Calls Try.prog 21 #[.agg #[.int .i64 3, .slice A 1 1, .slice A2 1 1]] w fun e w' => e = .returned (.bool true) ∧ Below w.heap.size w w' :=
  good_made tft A 1 1 A2 1 1 w hI rfl rfl (by decide)
theorem ones_tft (A A2 : Option Addr) (w : World) (hI : IsBits w w.heap.size A A2 tft) : Calls Try.prog 16 #[.agg #[.int .i64 3, .slice A 1 1, .slice A2 1 1], .int .i64 3] w fun e w' => e = .returned (.int .i64 2) ∧ Below w.heap.size w w' :=
  (ones_made tft 3 A 1 1 A2 1 1 w hI rfl rfl (by decide)).mono fun _ _ ⟨he, hb⟩ => ⟨he.trans (ret_int (by decide)), hb⟩
theorem find_tft_any (A A2 : Option Addr) (w : World) (hI : IsBits w w.heap.size A A2 tft) : Calls Try.prog 19 #[.agg #[.int .i64 3, .slice A 1 1, .slice A2 1 1], .int .i64 1] w fun e w' => e = .returned (.int .i64 2) ∧ Below w.heap.size w w' :=
  (find_made tft 1 A 1 1 A2 1 1 w hI rfl rfl (by decide) (by decide)).mono fun _ _ ⟨v, he, hv, hb⟩ => ⟨he.trans (ret_int (find_tft v hv)), hb⟩

set_option maxHeartbeats 1000000 in
theorem madeK_any (w : World) : Calls Try.prog 22 #[] w fun e w' => e = .returned (.bool true) ∧ Below w.heap.size w w' := by
  have hm := make_tft w
  have HM := Lib.hid hm
  clear hm
  go_enter Try.func22, Try.ntmps22
  go_wp2_with fail
  refine HM.out.mono ?_
  rintro e w1 ⟨g, g2, rfl, hI, hb⟩
  have hI1 := hI.alloc (.cells #[.int .i64 3, .slice (some ⟨g, 0, none⟩) 1 1, .slice (some ⟨g2, 0, none⟩) 1 1] 27)
  have hb1 := hb.alloc hb.size (.cells #[.int .i64 3, .slice (some ⟨g, 0, none⟩) 1 1, .slice (some ⟨g2, 0, none⟩) 1 1] 27)
  clear hI HM hb
  go_wp2_with fail
  refine (good_tft _ _ _ hI1).mono ?_
  rintro e w2 ⟨rfl, hb2⟩
  obtain ⟨k0, k1, k2, _, hs2⟩ := box3N (q := 0) hb2
  have hI2 := (hI1.below hb2).more hb2.size
  have hb2' := hb1.trans (hb2.mono hb1.size)
  clear hI1 hb1 hb2
  go_wp2_with fail
  refine (ones_tft _ _ _ hI2).mono ?_
  rintro e w3 ⟨rfl, hb3⟩
  have j0 := (hb3.cell (p := ⟨w1.heap.size, 0, none⟩) hs2).trans k0
  have j1 := (hb3.cell (p := ⟨w1.heap.size, 1, none⟩) hs2).trans k1
  have j2 := (hb3.cell (p := ⟨w1.heap.size, 2, none⟩) hs2).trans k2
  have hI3 := (hI2.below hb3).more hb3.size
  have hb3' := hb2'.trans (hb3.mono hb2'.size)
  clear hI2 hb2' k0 k1 k2
  go_wp2_with fail
  refine (find_tft_any _ _ _ hI3).mono ?_
  rintro e w4 ⟨rfl, hb4⟩
  have hb4' := hb3'.trans (hb4.mono hb3'.size)
  clear hI3 hb3 hb4 hb3' j0 j1 j2
  go_wp2
  go_ret
  exact ⟨rfl, hb4'⟩

set_option maxHeartbeats 1000000 in
theorem madeL_any (w : World) : Calls Try.prog 10 #[] w fun e w' => e = .returned (.bool true) ∧ Below w.heap.size w w' := by
  have hm := make_tft w
  have HM := Lib.hid hm
  clear hm
  go_enter Try.func10, Try.ntmps10
  go_wp2_with fail
  refine HM.out.mono ?_
  rintro e w1 ⟨g, g2, rfl, hI, hb⟩
  have hI1 := hI.alloc (.cells #[.int .i64 3, .slice (some ⟨g, 0, none⟩) 1 1, .slice (some ⟨g2, 0, none⟩) 1 1] 27)
  have hb1 := hb.alloc hb.size (.cells #[.int .i64 3, .slice (some ⟨g, 0, none⟩) 1 1, .slice (some ⟨g2, 0, none⟩) 1 1] 27)
  clear hI HM hb
  go_wp2_with fail
  refine (good_tft _ _ _ hI1).mono ?_
  rintro e w2 ⟨rfl, hb2⟩
  obtain ⟨k0, k1, k2, _, hs2⟩ := box3N (q := 0) hb2
  have hI2 := (hI1.below hb2).more hb2.size
  have hb2' := hb1.trans (hb2.mono hb1.size)
  clear hI1 hb1 hb2
  go_wp2_with fail
  refine (ones_tft _ _ _ hI2).mono ?_
  rintro e w3 ⟨rfl, hb3⟩
  have j0 := (hb3.cell (p := ⟨w1.heap.size, 0, none⟩) hs2).trans k0
  have j1 := (hb3.cell (p := ⟨w1.heap.size, 1, none⟩) hs2).trans k1
  have j2 := (hb3.cell (p := ⟨w1.heap.size, 2, none⟩) hs2).trans k2
  have hI3 := (hI2.below hb3).more hb3.size
  have hb3' := hb2'.trans (hb3.mono hb2'.size)
  clear hI2 hb2' k0 k1 k2
  go_wp2_with fail
  refine (find_tft_any _ _ _ hI3).mono ?_
  rintro e w4 ⟨rfl, hb4⟩
  have hb4' := hb3'.trans (hb4.mono hb3'.size)
  clear hI3 hb3 hb4 hb3' j0 j1 j2
  go_wp2
  go_ret
  exact ⟨rfl, hb4'⟩

end Go.Proofs.Ytgnakccbkglfpaa
