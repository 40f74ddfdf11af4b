/- What the laws of the whole call: alive, words; the shelf of nothing: Count, Guess. -/
import Derived.Test.YtoejenejleocdabGreatDoorUd
import Derived.Test.YtoejenejleocdabGreatDoorJq
import Derived.Laws.OwnMore
namespace Go.Proofs.YtoejenejleocdabGreatDoor
open Go.RowKit Tx
attribute [local irreducible] Bt.pop Bt.popF

theorem sv_app2 (a b : Wd) : Value.string ((⟨a.toArray⟩ : ByteArray) ++ (⟨b.toArray⟩ : ByteArray)) = sv (a ++ b) := by
  unfold sv
  congr 1

/-- the index of nothing -/
theorem rc_zero (w : World) : RC w none none none 0 0 0 0 0 0 :=
  ⟨⟨fun _ => 0, fun h => absurd h (by omega)⟩, RL.no0 w none, ⟨fun _ => 0, fun h => absurd h (by omega)⟩, by unfold Ir; omega, by omega, by omega, by omega, by omega⟩

set_option maxRecDepth 100000 in
set_option maxHeartbeats 1000000 in
theorem guessS_zero (q : Wd) (w : World) (hg : GV w) (hq : q.length ≤ 1000000000) :
    Calls Tryz.prog 30 #[sh0, sv q] w fun e w' => e = .returned (.tuple #[sv [], .int .i64 3]) ∧ Below w.heap.size w w' := by
  have hb0 := (Below.refl _ w).alloc (Nat.le_refl _) obj0
  have HS := Lib.hid (signs_any [] q none 0 0 none 0 0 (w.alloc obj0) (hg.on hb0) (fun h => absurd h (by simp)) rfl (by omega) hq)
  clear hg hq
  generalize sgn [] q = o at *
  go_enter Tryz.func30, Tryz.ntmps30
  go_wp2_with fail
  with_reducible refine HS.out.mono ?_
  clear HS
  have hz := shZ_alloc w
  cases o with
  | none =>
    rintro e w1 ⟨rfl, hb1⟩
    have hold := hb0.trans (hb1.mono hb0.size)
    clear hz
    go_wp2
    go_ret2
    exact ⟨rfl, hold⟩
  | some t =>
    rintro e w1 ⟨A, c, rfl, hc, hr, hb1⟩
    have hz1 := hz.of_block (hb1.block _ hz.lt)
    have c1 : w1.cell? ⟨w.heap.size, 1, none⟩ = some (.slice none 0 0) := hz1.cell (i := 1) (by omega)
    have hold := hb0.trans (hb1.mono hb0.size)
    clear hr hz hz1
    go_wp2
    go_ret2
    exact ⟨rfl, hold⟩

end Go.Proofs.YtoejenejleocdabGreatDoor
