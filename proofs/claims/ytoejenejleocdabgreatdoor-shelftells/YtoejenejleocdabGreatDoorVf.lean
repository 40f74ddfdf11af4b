/- The document's own answer for texts: ReadText. -/
import Derived.Test.YtoejenejleocdabGreatDoorJr
import Derived.Test.YtoejenejleocdabGreatDoorUk
import Derived.Lib.AtoiErrMem
namespace Go.Proofs.YtoejenejleocdabGreatDoor
open Go.RowKit Tx
attribute [local irreducible] Bt.pop Bt.popF

set_option maxHeartbeats 1000000 in
theorem readText_long (l : Wd) (w : World) (h : 400 < l.length) :
    Calls Tryz.prog 33 #[sv l] w fun e w' => e = .returned (.tuple #[bookV none 0 0 none 0 0, .int .i64 2]) ∧ Below w.heap.size w w' := by
  have hd : decide ((400 : Int) < (l.length : Int)) = true := by simp; omega
  go_enter Tryz.func33, Tryz.ntmps33
  go_wp2
  exact bodyPost_ret (v := .tuple #[bookV none 0 0 none 0 0, .int .i64 2]) (by simp [results, Tryz.results33, go_sem]) rfl ⟨rfl, (Below.refl _ _).alloc (Nat.le_refl _) _⟩

theorem sv_app3 (a : Wd) (c : UInt8) : Value.string ((⟨a.toArray⟩ : ByteArray) ++ (⟨#[c]⟩ : ByteArray)) = sv (a ++ [c]) := sv_app2 a [c]
theorem bytes_one (c : UInt8) (W : World) : (convert 85 9 (.slice (some ⟨W.heap.size, 0, none⟩) 1 1)).run Tryz.prog (W.alloc (.cells #[.int .u8 c.toNat] 5)) = .ok (.string ⟨#[c]⟩) (W.alloc (.cells #[.int .u8 c.toNat] 5)) := by
  have h := run_convert_bytes_arg (P := Tryz.prog) (W.alloc (.cells #[.int .u8 c.toNat] 5)) 85 5 Tryz.underlying85 Tryz.underlying5 W.heap.size 0 1 1 [(c.toNat : Int)] rfl (fun i hi => by
    obtain rfl : i = 0 := by omega
    simp) 9 Tryz.underlying9
  rw [h]
  simp [strOfNums]

/-- what is read so far, in a row of the call's own -/
structure RT (ts : List (Option Wd)) (w1 : World) (v : Value) (W : World) : Prop where
  own : W.ownsRow w1.heap.size 9 1 v ts.length (ts.map fun t => sv (tokW t))
  old : Below w1.heap.size w1 W
theorem RT.on {ts : List (Option Wd)} {w1 : World} {v : Value} {W W' : World} (h : RT ts w1 v W) (hb : Below W.heap.size W W') : RT ts w1 v W' := ⟨own_below h.own hb, h.old.trans (hb.mono h.old.size)⟩
theorem RT.app {ts : List (Option Wd)} {w1 : World} {v v' : Value} {W W' : World} (h : RT ts w1 v W) (t : Option Wd)
    (h2 : W'.ownsRow w1.heap.size 9 1 v' (ts.length + 1) ((ts.map fun t => sv (tokW t)) ++ [sv (tokW t)])) (hg : W.grownBy W' v.ownBlock) : RT (ts ++ [t]) w1 v' W' := by
  refine ⟨?_, h.old.grown hg h.old.size (fun g hg => (h.own.lt g hg).1)⟩
  simpa using h2

theorem bytes_start (l : Wd) (w : World) : ∃ C W1, (convert 9 85 (sv (endB l))).run Tryz.prog (w.alloc (.cells #[.slice none 0 0, .slice none 0 0] 43)) = .ok (.slice (some ⟨w.heap.size + 1, 0, none⟩) (endB l).length C) W1 ∧
    (∀ j, j < (endB l).length → W1.cell? ⟨w.heap.size + 1, j, none⟩ = some (.int .u8 ((endB l).getD j 0).toNat)) ∧ Below w.heap.size w W1 ∧ W1.heap.size = w.heap.size + 2 ∧ W1.rowIs w.heap.size 43 2 zeroBook := by
  have hcv := Lib.run_convert_string_bytes (P := Tryz.prog) (w.alloc (.cells #[.slice none 0 0, .slice none 0 0] 43)) 9 85 5 ⟨(endB l).toArray⟩ (u := .string) Tryz.underlying9 Tryz.underlying85 Tryz.underlying5
  have hbw := Lib.bytesWorld_below (w.alloc (.cells #[.slice none 0 0, .slice none 0 0] 43)) 5 ⟨(endB l).toArray⟩
  have hws := Lib.bytesWorld_size (w.alloc (.cells #[.slice none 0 0, .slice none 0 0] 43)) 5 ⟨(endB l).toArray⟩
  have hz : (w.alloc (.cells #[.slice none 0 0, .slice none 0 0] 43)).rowIs w.heap.size 43 2 zeroBook := World.rowIs_alloc w #[.slice none 0 0, .slice none 0 0] 43 zeroBook (fun i hi => by
    match i, hi with
    | 0, _ => rfl
    | 1, _ => rfl)
  rw [World.size_alloc] at hcv hws hbw
  rw [show (⟨(endB l).toArray⟩ : ByteArray).size = (endB l).length by simp [ByteArray.size]] at hcv
  refine ⟨_, _, hcv, fun j hj => ?_, ((Below.refl _ w).alloc (Nat.le_refl _) _).trans (hbw.mono (by omega)), hws, hz.of_block (hbw.block w.heap.size (by omega))⟩
  · have := Lib.bytesWorld_cell (w.alloc (.cells #[.slice none 0 0, .slice none 0 0] 43)) 5 ⟨(endB l).toArray⟩ j (by simpa [ByteArray.size] using hj)
    rw [World.size_alloc] at this
    simpa using this
theorem drop_one (l : Wd) (k : Nat) (hk : k < l.length) : l.drop k = l.getD k 0 :: l.drop (k + 1) := by
  rw [List.drop_eq_getElem_cons hk]
  simp [hk]
theorem shut_no (acc : List (Option Wd)) : shutW [] acc = acc := by unfold shutW; rw [if_pos rfl]
theorem shut_yes {own : Wd} (h : own ≠ []) (acc : List (Option Wd)) : shutW own acc = acc ++ [some own] := by unfold shutW; rw [if_neg h]
theorem toks_end_length : ∀ (ls : List (List Wd)), ls ≠ [] → (toks ls ++ [none]).length = ls.flatten.length + ls.length
  | [], h => absurd rfl h
  | [L], _ => by simp [toks]
  | L :: M :: r, _ => by
    have ih := toks_end_length (M :: r) (by simp)
    simp only [toks, List.length_append, List.length_map, List.length_cons, List.flatten_cons, List.length_nil] at ih ⊢
    omega
theorem rdB_err (l : Wd) (hl : l.length ≤ 400) (h : rdB (endB l) [] [] = none) : errB l = 1 := by
  rw [rdB_all] at h
  unfold errB
  rw [if_neg (by omega)]
  by_cases hc : (linesOf l).flatten.all isWord = true
  · rw [if_pos hc] at h; cases h
  · rw [if_pos (by simpa using hc)]
theorem rdB_ok (l : Wd) (hl : l.length ≤ 400) (acc : List (Option Wd)) (own : Wd) (h : rdB (endB l) [] [] = some (acc, own)) : acc = toks (linesOf l) ++ [none] ∧ Formed (linesOf l) ∧ errB l = if 100 < acc.length then 2 else 0 := by
  rw [rdB_all] at h
  by_cases hc : (linesOf l).flatten.all isWord = true
  · rw [if_pos hc] at h
    injection h with h
    injection h with h _
    refine ⟨h.symm, formed_of (cutB_ne _) hc, ?_⟩
    unfold errB
    rw [if_neg (by omega), if_neg (by rw [hc]; simp), ← h, toks_end_length (linesOf l) (cutB_ne _)]
  · rw [if_neg hc] at h; cases h

end Go.Proofs.YtoejenejleocdabGreatDoor
