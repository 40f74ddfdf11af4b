/- What text.Read answers of every text; what text.Signs answers. -/
import Derived.Test.YtoeemehdkejhfaaDoorTs
import Derived.Deep.RegionHeld3
namespace Go.Proofs.YtoeemehdkejhfaaDoor
open Go.RowKit Tx

theorem read_any (l : Wd) (m : Int) (w : World) (hm : w.cell? ⟨0, 0, none⟩ = some (.int .i64 m)) : Calls Tryd.prog 5 #[sv l] w (ReadPost l w) := by
  by_cases h : 400 < l.length
  · have he : errB l = 2 := by unfold errB; rw [if_pos h]
    refine (read_long l w h).mono ?_
    rintro e w' ⟨rfl, hb⟩
    exact .inr ⟨by rw [he]; decide, by rw [he], hb⟩
  · exact read_small l m w (by omega) hm

def SignsPost (ws : List Wd) (l : Wd) (w : World) (e : Ending) (w' : World) : Prop :=
  (allIn (findIn ws) (cutB l) = true ∧ ∃ A c, e = .returned (.tuple #[.slice A (toks (cutB l)).length c, .bool true]) ∧ IRow w' w'.heap.size A (nums (findIn ws) (toks (cutB l))) ∧ Below w.heap.size w w') ∨
  (allIn (findIn ws) (cutB l) = false ∧ e = .returned (.tuple #[.slice none 0 0, .bool false]) ∧ Below w.heap.size w w')

theorem toks_cut (l : Wd) : (cutB l).length ≤ l.length + 1 ∧ (toks (cutB l)).length ≤ 3 * l.length + 2 := by
  have h1 := toks_length (cutB l)
  have h2 := flat_le l
  have h3 := sb_length l
  have h4 : (cutB l).length = (sb l).length := by unfold cutB; rw [List.length_map]
  omega

set_option maxHeartbeats 1000000 in
theorem signs_yes (ws : List Wd) (l : Wd) (A : Option Addr) (n c : Nat) (A2 : Option Addr) (n2 c2 : Nat) (m : Int) (w : World) (hA : SRow w w.heap.size A ws) (hn : n = ws.length) (hb : n ≤ 4294967296) (hl : l.length ≤ 1000000000)
    (hm : w.cell? ⟨0, 0, none⟩ = some (.int .i64 m)) (hin : allIn (findIn ws) (cutB l) = true) :
    Calls Tryd.prog 7 #[bookV A n c A2 n2 c2, sv l] w fun e w' => ∃ A c, e = .returned (.tuple #[.slice A (toks (cutB l)).length c, .bool true]) ∧ IRow w' w'.heap.size A (nums (findIn ws) (toks (cutB l))) ∧ Below w.heap.size w w' := by
  obtain ⟨t1, t2⟩ := toks_cut l
  have hmlt := World.block_lt_of_cell? _ _ hm
  have hw0 : Below w.heap.size w (w.alloc (.cells #[.slice A n c, .slice A2 n2 c2] 25)) := (Below.refl _ w).alloc (Nat.le_refl _) _
  have hz : (w.alloc (.cells #[.slice A n c, .slice A2 n2 c2] 25)).cell? ⟨w.heap.size, 0, none⟩ = some (.slice A n c) := by simp
  have hws : w.heap.size < (w.alloc (.cells #[.slice A n c, .slice A2 n2 c2] 25)).heap.size := by simp
  have H1 := Lib.hid (fun W (h : Below w.heap.size w W) => cut_any l m W (by omega) ((h.cell (p := ⟨0, 0, none⟩) hmlt).trans hm))
  have H3 : Hid (∀ W, Below w.heap.size w W → ∀ A3 c3, LRow W W.heap.size A3 (cutB l) → Calls Tryd.prog 22 #[.slice A n c, .slice A3 (cutB l).length c3] W fun e w' => ∃ A c, e = .returned (.tuple #[.slice A (toks (cutB l)).length c, .bool true]) ∧ IRow w' w'.heap.size A (nums (findIn ws) (toks (cutB l))) ∧ Below w.heap.size w w' ∧ Below W.heap.size W w') := Lib.hid fun W h A3 c3 hL => by
    refine (numbers_any ws (cutB l) A n c A3 (cutB l).length c3 W ((hA.below h).more h.size) hn hL rfl hb (by omega) (by omega)).mono ?_
    rintro e w' (⟨hi, v, rfl, hown, hb'⟩ | ⟨hi, rfl, hb'⟩)
    · obtain ⟨A4, c4, rfl, _⟩ := own_slice hown
      exact ⟨A4, c4, rfl, (iv_row hown).2, h.trans (hb'.mono h.size), hb'⟩
    · rw [hin] at hi; cases hi
  clear hA hn hm hmlt hin
  generalize hC : cutB l = ls at *
  have HC := Lib.hid hC
  clear hC
  go_enter Tryd.func7, Tryd.ntmps7
  go_wp2_with fail
  generalize w.alloc (.cells #[.slice A n c, .slice A2 n2 c2] 25) = W at *
  have hd0 := hw0.drew
  go_region_held3 (fun w' => w'.cell? ⟨w.heap.size, 0, none⟩ = some (.slice A n c)) (first | exact hz | go_keep)
    (first
      | (go_at_call 16; refine (H1.out _ ?_).mono ?_; (first | assumption | exact hd0); rintro e w3 ⟨A3, c3, rfl, hL3, hb3⟩; rw [HC.out] at hL3 ⊢; have k0 : w3.cell? ⟨w.heap.size, 0, none⟩ = some (.slice A n c) := (hb3.cell (p := ⟨w.heap.size, 0, none⟩) hws).trans hz; have o3 := hd0.trans (hb3.mono hd0.size))
      | (go_at_call 22; refine (H3.out _ ?_ _ _ ?_).mono ?_; assumption; assumption; rintro e w4 ⟨A4, c4, rfl, hr4, hb4, hb5⟩; have k1 : w4.cell? ⟨w.heap.size, 0, none⟩ = some (.slice A n c) := (hb5.cell (p := ⟨w.heap.size, 0, none⟩) (Nat.lt_of_lt_of_le hws hb3.size)).trans k0))
  all_goals
    go_wp2
    go_ret2
    exact ⟨_, _, rfl, hr4, hb4⟩

set_option maxHeartbeats 1000000 in
theorem signs_no (ws : List Wd) (l : Wd) (A : Option Addr) (n c : Nat) (A2 : Option Addr) (n2 c2 : Nat) (m : Int) (w : World) (hA : SRow w w.heap.size A ws) (hn : n = ws.length) (hb : n ≤ 4294967296) (hl : l.length ≤ 1000000000)
    (hm : w.cell? ⟨0, 0, none⟩ = some (.int .i64 m)) (hin : allIn (findIn ws) (cutB l) = false) :
    Calls Tryd.prog 7 #[bookV A n c A2 n2 c2, sv l] w fun e w' => e = .returned (.tuple #[.slice none 0 0, .bool false]) ∧ Below w.heap.size w w' := by
  obtain ⟨t1, t2⟩ := toks_cut l
  have hmlt := World.block_lt_of_cell? _ _ hm
  have hw0 : Below w.heap.size w (w.alloc (.cells #[.slice A n c, .slice A2 n2 c2] 25)) := (Below.refl _ w).alloc (Nat.le_refl _) _
  have hz : (w.alloc (.cells #[.slice A n c, .slice A2 n2 c2] 25)).cell? ⟨w.heap.size, 0, none⟩ = some (.slice A n c) := by simp
  have hws : w.heap.size < (w.alloc (.cells #[.slice A n c, .slice A2 n2 c2] 25)).heap.size := by simp
  have H1 := Lib.hid (fun W (h : Below w.heap.size w W) => cut_any l m W (by omega) ((h.cell (p := ⟨0, 0, none⟩) hmlt).trans hm))
  have H3 : Hid (∀ W, Below w.heap.size w W → ∀ A3 c3, LRow W W.heap.size A3 (cutB l) → Calls Tryd.prog 22 #[.slice A n c, .slice A3 (cutB l).length c3] W fun e w' => e = .returned (.tuple #[.slice none 0 0, .bool false]) ∧ Below w.heap.size w w' ∧ Below W.heap.size W w') := Lib.hid fun W h A3 c3 hL => by
    refine (numbers_any ws (cutB l) A n c A3 (cutB l).length c3 W ((hA.below h).more h.size) hn hL rfl hb (by omega) (by omega)).mono ?_
    rintro e w' (⟨hi, v, rfl, hown, hb'⟩ | ⟨hi, rfl, hb'⟩)
    · rw [hin] at hi; cases hi
    · exact ⟨rfl, h.trans (hb'.mono h.size), hb'⟩
  clear hA hn hm hmlt hin
  generalize hC : cutB l = ls at *
  have HC := Lib.hid hC
  clear hC
  go_enter Tryd.func7, Tryd.ntmps7
  go_wp2_with fail
  generalize w.alloc (.cells #[.slice A n c, .slice A2 n2 c2] 25) = W at *
  have hd0 := hw0.drew
  go_region_held3 (fun w' => w'.cell? ⟨w.heap.size, 0, none⟩ = some (.slice A n c)) (first | exact hz | go_keep)
    (first
      | (go_at_call 16; refine (H1.out _ ?_).mono ?_; (first | assumption | exact hd0); rintro e w3 ⟨A3, c3, rfl, hL3, hb3⟩; rw [HC.out] at hL3 ⊢; have k0 : w3.cell? ⟨w.heap.size, 0, none⟩ = some (.slice A n c) := (hb3.cell (p := ⟨w.heap.size, 0, none⟩) hws).trans hz; have o3 := hd0.trans (hb3.mono hd0.size))
      | (go_at_call 22; refine (H3.out _ ?_ _ _ ?_).mono ?_; assumption; assumption; rintro e w4 ⟨rfl, hb4, hb5⟩; have k1 : w4.cell? ⟨w.heap.size, 0, none⟩ = some (.slice A n c) := (hb5.cell (p := ⟨w.heap.size, 0, none⟩) (Nat.lt_of_lt_of_le hws hb3.size)).trans k0))
  all_goals
    go_wp2
    go_ret2
    exact ⟨rfl, hb4⟩

end Go.Proofs.YtoeemehdkejhfaaDoor
