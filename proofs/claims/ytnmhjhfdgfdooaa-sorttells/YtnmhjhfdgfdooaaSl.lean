/- 'sorts' of both packages: of one list the ends are as told. -/
import Derived.Test.YtnmhjhfdgfdooaaSk
namespace Go.Proofs.Ytnmhjhfdgfdooaa
open Go.RowKit

theorem ends_ex : En.endsOf [2, 1, 2, 0] = [3, 1, 2, 0] := by
  refine (En.endsOf_eq ⟨?_, ?_⟩).symm
  · decide
  · unfold En.elt; decide
theorem endsI_ex : endsI [2, 1, 2, 0] = [3, 1, 2, 0] := by unfold endsI; rw [ends_ex]; rfl

/-- a row of numbers that has just been made -/
theorem irow_new (w : World) (l : List Int) (t : TypeId) : IRow (w.alloc (.cells (l.map (Value.int .i64)).toArray t)) (w.alloc (.cells (l.map (Value.int .i64)).toArray t)).heap.size (some ⟨w.heap.size, 0, none⟩) l := by
  intro _
  refine ⟨w.heap.size, 0, rfl, by simp, fun i hi => ?_⟩
  rw [Nat.zero_add, World.cell?_alloc_at _ _ _ _ (by simp)]
  simp [hi]

theorem ends_four (w : World) : ∀ W : World, W = w.alloc (.cells #[.int .i64 2, .int .i64 1, .int .i64 2, .int .i64 0] 3) → Calls Try.prog 22 #[.slice (some ⟨w.heap.size, 0, none⟩) 4 4] W fun e w' =>
    ∃ b o c, e = .returned (.slice (some ⟨b, o, none⟩) 4 c) ∧ w'.cell? ⟨b, o, none⟩ = some (.int .i64 3) ∧ w'.cell? ⟨b, o + 1, none⟩ = some (.int .i64 1) ∧ w'.cell? ⟨b, o + 2, none⟩ = some (.int .i64 2) ∧ Below w.heap.size w w' := by
  rintro W rfl
  refine (ends_ints (some ⟨w.heap.size, 0, none⟩) 4 [2, 1, 2, 0] _ (irow_new w [2, 1, 2, 0] 3) (by decide)).mono ?_
  rintro e w' ⟨A, c, rfl, h2, h3⟩
  rw [endsI_ex] at h2 ⊢
  obtain ⟨b, o, rfl, _, hc⟩ := h2 (by decide)
  exact ⟨b, o, c, rfl, hc 0 (by decide), hc 1 (by decide), hc 2 (by decide), ((Below.refl _ w).alloc (Nat.le_refl _) _).trans (h3.mono (by simp))⟩

set_option maxHeartbeats 400000 in
theorem sortsK_any (w : World) : Calls Try.prog 31 #[] w fun e w' => e = .returned (.bool true) ∧ Below w.heap.size w w' := by
  have HE := Lib.hid (ends_four w)
  go_enter Try.func31, Try.ntmps31
  go_wp2_with fail
  with_reducible refine (HE.out _ rfl).mono ?_
  rintro e w1 ⟨b, o, c, rfl, c0, c1, c2, hb⟩
  clear HE
  go_wp2
  go_ret
  exact ⟨rfl, hb⟩

set_option maxHeartbeats 400000 in
theorem sortsL_any (w : World) : Calls Try.prog 21 #[] w fun e w' => e = .returned (.bool true) ∧ Below w.heap.size w w' := by
  have HE := Lib.hid (ends_four w)
  go_enter Try.func21, Try.ntmps21
  go_wp2_with fail
  with_reducible refine (HE.out _ rfl).mono ?_
  rintro e w1 ⟨b, o, c, rfl, c0, c1, c2, hb⟩
  clear HE
  go_wp2
  go_ret
  exact ⟨rfl, hb⟩

end Go.Proofs.Ytnmhjhfdgfdooaa
