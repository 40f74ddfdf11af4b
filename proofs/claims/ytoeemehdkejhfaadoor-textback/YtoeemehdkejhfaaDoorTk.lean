/- What slices.Concat makes of lines: all words, one behind the other, in a row of its own. -/
import Derived.Test.YtoeemehdkejhfaaDoorTc
namespace Go.Proofs.YtoeemehdkejhfaaDoor
open Go.RowKit Tx

theorem sizeStr : ∃ i, Tryd.prog.info? 9 = some i ∧ i.zero = some (.string ⟨#[]⟩) ∧ i.size = 1 ∧ i.bytes = 16 := by
  obtain ⟨i, hi, hz⟩ := Option.map_eq_some_iff.1 infoStr
  simp only [Prod.mk.injEq] at hz
  exact ⟨i, hi, hz.1, hz.2.1, hz.2.2⟩

theorem own_fresh (w : World) (cs : Array Value) (e : TypeId) (cap : Nat) (hc : cs.size = cap) (hm : cap ≤ maxLen) : (w.drew.alloc (.cells cs e)).ownsRow w.heap.size e 1 (.slice (some ⟨w.heap.size, 0, none⟩) 0 cap) 0 [] :=
  ⟨by simp, .inr ⟨w.heap.size, cap, cs, rfl, Nat.le_refl _, Deep.blk_alloc_new w.drew _, Nat.zero_le _, hm, by omega, by simp⟩⟩
/-- room for so many strings -/
theorem grow_any (S : Nat) (w : World) (hS : S ≤ 8589934592) :
    Calls Tryd.prog 36 #[.slice none 0 0, .int .i64 S] w fun e w' => ∃ v, e = .returned v ∧ w'.ownsRow w.heap.size 9 1 v 0 [] ∧ Below w.heap.size w w' := by
  by_cases h0 : S = 0
  · subst h0
    refine (Any8.slices_Grow_room Tryd.lays8_4 none 0 0 0 w (by omega) (by omega) (by omega) (by omega)).mono ?_
    rintro e w' ⟨rfl, rfl⟩
    exact ⟨_, rfl, World.ownsRow_nil _ _ _ _, Below.refl _ _⟩
  · obtain ⟨i, hi, hz, hs, hb⟩ := sizeStr
    refine (Any8.slices_Grow_grow Tryd.lays8_4 i (.string ⟨#[]⟩) hi hz (by omega) none 0 0 S [] w (by omega) (by omega) (by rw [hb]; omega) (by omega) (by simp) (fun _ => rfl) (fun a h => by cases h)).mono ?_
    rintro e w' ⟨rfl, rfl⟩
    have hg := grownCap_ge w (0 + S) 0 9
    have hm := grownCap_le_maxLen w (0 + S) 0 9 (by unfold maxLen; omega)
    exact ⟨_, rfl, own_fresh w _ 9 _ (by
      show _ = grownCap w (0 + S) 0 9
      change ((#[] : Array Value) ++ Builtin.zeroCells (Value.string ⟨#[]⟩).cells (0 + S - 0) ++ Builtin.zeroCells (Value.string ⟨#[]⟩).cells (grownCap w (0 + S) 0 9 - (0 + S))).size = _
      simp only [Array.size_append, size_zeroCells, Value.cells]
      simp
      rw [Nat.zero_add] at hg
      omega) hm, ((Below.refl _ w).drew).alloc (Nat.le_refl _) _⟩

theorem flat_take (ls : List (List Wd)) (k : Nat) (hk : k < ls.length) : (ls.take (k + 1)).flatten = (ls.take k).flatten ++ ls.getD k [] := by
  rw [List.take_succ_eq_append_getElem hk, List.flatten_append, List.getD_eq_getElem?_getD, List.getElem?_eq_getElem hk]
  simp
theorem flat_take_le (ls : List (List Wd)) (k : Nat) : (ls.take k).flatten.length ≤ ls.flatten.length := by
  conv => rhs; rw [← List.take_append_drop k ls]
  rw [List.flatten_append, List.length_append]; omega
theorem map_range_sv (L : List Wd) : (List.range L.length).map (fun i => sv (L.getD i [])) = L.map sv := (map_range_getD L [] sv).symm

set_option maxHeartbeats 1000000 in
theorem concat_any (ls : List (List Wd)) (A : Option Addr) (n c : Nat) (w : World) (hL : LRow w w.heap.size A ls) (hn : n = ls.length) (hb : n ≤ 4294967296) (hb2 : ls.flatten.length ≤ 8589934592) :
    Calls Tryd.prog 18 #[.slice A n c] w fun e w' => ∃ v, e = .returned v ∧ w'.ownsRow w.heap.size 9 1 v ls.flatten.length (ls.flatten.map sv) ∧ Below w.heap.size w w' := by
  obtain ⟨a, cs, hR, hS⟩ := hL
  rw [← hn] at hR hS
  have HR := Lib.hid hR
  have HS := Lib.hid hS
  have Hn := Lib.hid hn
  have HF := Lib.hid (flat_take ls)
  have HFL := Lib.hid (flat_take_le ls)
  rw [← hn] at HF
  clear hR hS hn
  go_enter Tryd.func18, Tryd.ntmps18
  go_wp2
  go_loop [3, 11] (fun s3 s11 => ∃ k : Nat, s11 = .int .i64 k ∧ k ≤ n ∧ s3 = .int .i64 ((ls.take k).flatten.length : Nat)) (fun _ s => n - (intOf s).toNat)
  case atStart => exact ⟨0, rfl, by omega, rfl⟩
  case round =>
    obtain ⟨k, rfl, hk, rfl⟩ := hrel
    by_cases hlt : k < n
    · obtain ⟨b0, o0, rfl, hb0, hc0⟩ := HR.out (by omega)
      have hc1 : w.cell? ⟨b0, o0 + k, none⟩ = some (.slice (a k) (ls.getD k []).length (cs k)) := hc0 k hlt
      have h1 := HF.out k hlt
      have h2 := HFL.out (k + 1)
      rw [h1, List.length_append] at h2
      have Hl := Lib.hid (show (ls.take (k + 1)).flatten.length = (ls.take k).flatten.length + (ls.getD k []).length by rw [h1, List.length_append])
      generalize (ls.getD k []).length = m at *
      generalize (ls.take k).flatten.length = s at *
      generalize a k = Ai at *
      generalize cs k = ci at *
      clear hc0 h1
      have hneg : decide ((s : Int) + (m : Int) < 0) = false := by simp; omega
      go_wp2
      go_round
      case rel => exact ⟨k + 1, by go_num, by omega, by rw [Hl.out]; go_num⟩
      case measure => simp [intOf]; omega
    · obtain rfl : k = n := by omega
      have HK := Lib.hid (show (ls.take k).flatten.length = ls.flatten.length by rw [Hn.out, List.take_length])
      obtain ⟨T, hT⟩ : ∃ T, T = ls.flatten.length := ⟨_, rfl⟩
      rw [HK.out, ← hT]
      rw [← hT] at hb2
      have HT := Lib.hid hT
      clear hT
      go_wp2_with fail
      with_reducible refine (grow_any _ _ hb2).mono ?_
      rintro e w1 ⟨v, rfl, hown, hb1⟩
      go_wp2_with fail
      go_loopw [6, 27] (fun s6 s27 wr => ∃ i : Nat, s27 = .int .i64 i ∧ i ≤ k ∧ wr.ownsRow w.heap.size 9 1 s6 (ls.take i).flatten.length ((ls.take i).flatten.map sv) ∧ Below w.heap.size w wr) (fun _ s _ => k - (intOf s).toNat)
      case atStart => exact ⟨0, rfl, by omega, hown, hb1⟩
      case round =>
        clear hown hb1
        obtain ⟨i, rfl, hi, J, hold⟩ := hrel
        by_cases hlt : i < k
        · obtain ⟨b0, o0, rfl, hb0, hc0⟩ := HR.out (by omega)
          have hc1 : wr.cell? ⟨b0, o0 + i, none⟩ = some (.slice (a i) (ls.getD i []).length (cs i)) := (hold.cell (p := ⟨b0, o0 + i, none⟩) hb0).trans (hc0 i hlt)
          have HLr := Lib.hid ((HS.out i hlt).below hold |>.more hold.size)
          have h1 := HF.out i hlt
          have h2 := HFL.out (i + 1)
          rw [h1, List.length_append, ← HT.out] at h2
          have Hl := Lib.hid h1
          generalize ls.getD i [] = L at *
          generalize a i = Ai at *
          generalize cs i = ci at *
          generalize (ls.take i).flatten = F at *
          clear hc0 h1
          have hsz := hold.size
          have hmx : F.length + L.length ≤ maxLen := by unfold maxLen; omega
          go_wp2_with (at_builtin; refine wpList_app_row _ rfl _ _ 22 rfl w.heap.size 9 (.string ⟨#[]⟩) 16 Tryd.underlying22 infoStr rfl _ F.length (F.map sv) rfl J Ai L.length ci (fun i => sv (L.getD i [])) rfl HLr.out (fun _ _ => rfl) hmx (by omega) (by omega) ?_; intro v' w2 h2' h3 h4)
          rw [map_range_sv, ← List.map_append] at h2'
          have hold2 := hold.grown h3 hold.size (fun g hg => (J.lt g hg).1)
          clear J HLr h3 h4
          go_wp2
          go_roundw
          case rel => exact ⟨i + 1, by go_num, by omega, by rw [Hl.out, List.length_append]; exact h2', hold2⟩
          case measure => simp [intOf]; omega
        · obtain rfl : i = k := by omega
          have HK2 := Lib.hid (show (ls.take i).flatten = ls.flatten by rw [Hn.out, List.take_length])
          rw [HK2.out] at J
          go_wp2
          go_ret
          exact ⟨_, rfl, J, hold⟩

end Go.Proofs.YtoeemehdkejhfaaDoor
