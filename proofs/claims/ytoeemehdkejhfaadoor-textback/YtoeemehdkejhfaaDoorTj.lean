/- What text.isRising, text.isEnded and text.usesJust answer of a book that is one. -/
import Derived.Test.YtoeemehdkejhfaaDoorTg
import Derived.Test.YtoeemehdkejhfaaDoorTd
import Derived.Test.YtoeemehdkejhfaaDoorTf
import Derived.BigQuiet
import Derived.Deep.QuietTactic
namespace Go.Proofs.YtoeemehdkejhfaaDoor
open Go.RowKit Tx

theorem rising_at {ws : List Wd} (hr : ws.Pairwise (· < ·)) (k : Nat) (hk : k + 1 < ws.length) : Op.bytesLess (ws.getD k []) (ws.getD (k + 1) []) = true := by
  rw [bytesLess_eq]
  have := List.pairwise_iff_getElem.1 hr k (k + 1) (by omega) hk (by omega)
  simpa [List.getD_eq_getElem?_getD, List.getElem?_eq_getElem hk, List.getElem?_eq_getElem (show k < ws.length by omega)] using this

set_option maxHeartbeats 1000000 in
theorem isRising_true (ws : List Wd) (A : Option Addr) (n c : Nat) (w : World) (hA : SRow w w.heap.size A ws) (hn : n = ws.length) (hb : n ≤ 4294967296) (hr : ws.Pairwise (· < ·)) :
    Calls Tryd.prog 27 #[.slice A n c] w fun e w' => e = .returned (.bool true) ∧ Below w.heap.size w w' := by
  unfold SRow at hA
  rw [← hn] at hA
  have HA := Lib.hid hA
  have HR := Lib.hid (rising_at hr)
  rw [← hn] at HR
  clear hA hn hr
  go_enter Tryd.func27, Tryd.ntmps27
  go_wp2
  go_loopw [3] (fun s wr => ∃ k q : Nat, s = .int .i64 ((k : Int) + 1) ∧ (k + 1 ≤ n ∨ k = 0) ∧ wr = w.drewN q) (fun s _ => n - (intOf s).toNat)
  case atStart => exact ⟨0, 0, rfl, .inr rfl, rfl⟩
  case round =>
    obtain ⟨k, q, rfl, hk, rfl⟩ := hrel
    by_cases hlt : k + 1 < n
    · obtain ⟨b, o, rfl, hbb, hc⟩ := HA.out (by omega)
      have hc1 : w.cell? ⟨b, o + k, none⟩ = some (sv (ws.getD k [])) := hc k (by omega)
      have hc2 : w.cell? ⟨b, o + (k + 1), none⟩ = some (sv (ws.getD (k + 1) [])) := hc (k + 1) hlt
      have hlss := HR.out k hlt
      generalize ws.getD k [] = x at *
      generalize ws.getD (k + 1) [] = y at *
      clear hc HR
      have hlt' : (k : Int) + 1 < (n : Int) := by omega
      go_wp2_with fail
      go_quiet (fail)
      go_wp2_with fail
      go_roundw
      case rel => exact ⟨k + 1, _, by go_num, by omega, rfl⟩
      case measure => simp [intOf]; omega
    · have hlt' : ¬ (k : Int) + 1 < (n : Int) := by omega
      go_wp2
      go_ret
      exact ⟨rfl, Below.drewN (Below.refl _ _) q⟩

theorem infoBool : (Tryd.prog.info? 4).map (fun i => (i.zero, i.size, i.bytes)) = some (some (.bool false), 1, 1) := by kernel_rfl

set_option maxHeartbeats 1000000 in
theorem isEnded_true (T : List Int) (A : Option Addr) (n c : Nat) (w : World) (hA : IRow w w.heap.size A T) (hn : n = T.length) (hb : n ≤ 4294967296) (h2 : 2 ≤ n) (h1 : T.getD (n - 2) 0 = 1) (h0 : T.getD (n - 1) 0 = 0) (hz : ∀ j, j < n - 1 → T.getD j 0 ≠ 0) :
    Calls Tryd.prog 28 #[.slice A n c] w fun e w' => e = .returned (.bool true) ∧ w = w' := by
  unfold IRow at hA
  rw [← hn] at hA
  obtain ⟨m, rfl⟩ : ∃ m, n = m + 2 := ⟨n - 2, by omega⟩
  rw [Nat.add_sub_cancel] at h1
  rw [show m + 2 - 1 = m + 1 from rfl] at h0 hz
  obtain ⟨b, o, rfl, hbb, hc⟩ := hA (by omega)
  have hc1 : w.cell? ⟨b, o + m, none⟩ = some (.int .i64 (T.getD m 0)) := hc m (by omega)
  rw [h1] at hc1
  have hi := Lib.idxFrom_hit 0 T (m + 1) 0 (by omega) h0 hz
  rw [Nat.zero_add] at hi
  have hidx := Tryd.slices_Index_int b o (m + 2) c T 0 w (by omega) (by omega) (by rw [← hn]; exact hc)
  rw [hn, List.take_length] at hidx
  unfold Lib.idxOf at hidx
  rw [hi, ← hn, show ((m + 1 : Nat) : Int) = (m : Int) + 1 from by omega] at hidx
  have HI := Lib.hid hidx
  clear hidx hi hc h0 h1 hz hA hn
  have e1 : ((m : Int) + 2 - 1) = (m : Int) + 1 := by omega
  have hd : decide ((1 : Int) ≤ (m : Int) + 1) = true := by simp; omega
  go_enter Tryd.func28, Tryd.ntmps28
  go_wp2_with fail
  with_reducible refine HI.out.mono ?_
  rintro e w' ⟨rfl, rfl⟩
  go_wp2
  go_ret
  exact ⟨bool_ret (by simp), rfl⟩

set_option maxHeartbeats 1000000 in
/-- no false among trues -/
theorem containsF_none (g m : Nat) (w : World) (hr : w.rowIs g 4 m (fun _ => .bool true)) (hm : m ≤ 4294967296) :
    Calls Tryd.prog 46 #[.slice (some ⟨g, 0, none⟩) m m, .bool false] w fun e w' => e = .returned (.bool false) ∧ w = w' := by
  have HR := Lib.hid hr
  clear hr
  have hi : Calls Tryd.prog 72 #[.slice (some ⟨g, 0, none⟩) m m, .bool false] w fun e w' => e = .returned (.int .i64 (-1)) ∧ w = w' := by
    go_enter Tryd.func72, Tryd.ntmps72
    go_wp2
    go_loop [8] (fun s => ∃ k : Nat, s = .int .i64 k ∧ k ≤ m) (fun s => m - (intOf s).toNat)
    case atStart => exact ⟨0, rfl, by omega⟩
    case round =>
      obtain ⟨k, rfl, hk⟩ := hrel
      by_cases hlt : k < m
      · have hc : w.cell? ⟨g, k, none⟩ = some (.bool true) := HR.out.cell hlt
        go_wp2
        go_round
        case rel => exact ⟨k + 1, by go_num, by omega⟩
        case measure => simp [intOf]; omega
      · go_wp2
        go_ret
        exact ⟨rfl, rfl⟩
  have HI := Lib.hid hi
  clear hi
  go_enter Tryd.func46, Tryd.ntmps46
  go_wp2_with fail
  with_reducible refine HI.out.mono ?_
  rintro e w' ⟨rfl, rfl⟩
  go_wp2
  go_ret
  exact ⟨rfl, rfl⟩

/-- word j has been seen among the first k signs -/
def seen (T : List Int) (k j : Nat) : Bool := (T.take k).any fun x => decide (x = (j : Int) + 2)
theorem seen_succ (T : List Int) (k j : Nat) (hk : k < T.length) : seen T (k + 1) j = (seen T k j || decide (T.getD k 0 = (j : Int) + 2)) := by
  unfold seen
  rw [List.take_succ_eq_append_getElem hk, List.any_append, List.getD_eq_getElem?_getD, List.getElem?_eq_getElem hk]
  simp

set_option maxHeartbeats 1000000 in
theorem usesJust_true (T : List Int) (A : Option Addr) (n c m : Nat) (w : World) (hA : IRow w w.heap.size A T) (hn : n = T.length) (hb : n ≤ 4294967296) (hm : m ≤ 4294967296)
    (hr : ∀ i, i < n → 0 ≤ T.getD i 0 ∧ T.getD i 0 < m + 2) (hs : ∀ j, j < m → seen T n j = true) :
    Calls Tryd.prog 29 #[.slice A n c, .int .i64 m] w fun e w' => e = .returned (.bool true) ∧ Below w.heap.size w w' := by
  unfold IRow at hA
  rw [← hn] at hA
  have HA := Lib.hid hA
  have HR := Lib.hid hr
  have HS := Lib.hid hs
  have HC := Lib.hid (seen_succ T)
  rw [← hn] at HC
  clear hA hr hs hn
  have hmk := run_make_row' (P := Tryd.prog) 73 4 (.bool false) 1 Tryd.underlying73 infoBool rfl .i64 .i64 m (by omega) (by omega)
  go_enter Tryd.func29, Tryd.ntmps29
  go_wp2_with fail
  go_loopw [12] (fun s wr => ∃ k : Nat, s = .int .i64 k ∧ k ≤ n ∧ wr.rowIs w.heap.size 4 m (fun j => .bool (seen T k j)) ∧ Below w.heap.size w wr) (fun s _ => n - (intOf s).toNat)
  case atStart => exact ⟨0, rfl, by omega, (World.rowIs_made w (.bool false) m 4).congr (fun i _ => by simp [seen]), (Below.refl _ w).alloc (Nat.le_refl _) _⟩
  case round =>
    obtain ⟨k, rfl, hk, J, hold⟩ := hrel
    by_cases hlt : k < n
    · obtain ⟨b, o, rfl, hbb, hc⟩ := HA.out (by omega)
      have hc1 : wr.cell? ⟨b, o + k, none⟩ = some (.int .i64 (T.getD k 0)) := (hold.cell (p := ⟨b, o + k, none⟩) hbb).trans (hc k hlt)
      obtain ⟨r1, r2⟩ := HR.out k hlt
      have HC1 := Lib.hid (fun j => HC.out k j hlt)
      generalize T.getD k 0 = x at *
      clear hc
      have hd1 : decide (x < 0) = false := by simp; omega
      have hd2 : decide ((2 : Int) + (m : Int) ≤ x) = false := by simp; omega
      by_cases hx : 2 ≤ x
      · obtain ⟨p, rfl⟩ : ∃ p : Nat, x = (p : Int) + 2 := ⟨(x - 2).toNat, by omega⟩
        have hpm : p < m := by omega
        have hd3 : decide ((2 : Int) ≤ (p : Int) + 2) = true := by simp; omega
        have hcell : wr.cell? ⟨w.heap.size, p, none⟩ = some (.bool (seen T k p)) := J.cell hpm
        have hfz : wr.frozen? ⟨w.heap.size, p, none⟩ = false := J.frozen p
        have J2 : (wr.setCell ⟨w.heap.size, p, none⟩ (.bool true)).rowIs w.heap.size 4 m (fun j => .bool (seen T (k + 1) j)) := (J.set p (.bool true)).congr (fun j _ => by
          rw [HC1.out j]
          by_cases e : j = p
          · subst e; simp
          · rw [if_neg e]; simp; omega)
        have hold2 : Below w.heap.size w (wr.setCell ⟨w.heap.size, p, none⟩ (.bool true)) := hold.setCell (by simp) _
        clear HC1 HR
        go_wp2_with fail
        go_roundw
        case rel => exact ⟨k + 1, by go_num, by omega, J2, hold2⟩
        case measure => simp [intOf]; omega
      · have hd3 : decide ((2 : Int) ≤ x) = false := by simp; omega
        have J2 : wr.rowIs w.heap.size 4 m (fun j => .bool (seen T (k + 1) j)) := J.congr (fun j _ => by rw [HC1.out j]; simp; omega)
        clear HC1 HR
        go_wp2_with fail
        go_roundw
        case rel => exact ⟨k + 1, by go_num, by omega, J2, hold⟩
        case measure => simp [intOf]; omega
    · obtain rfl : k = n := by omega
      have J2 := J.congr (g := fun _ => .bool true) (fun j hj => by rw [HS.out j hj])
      go_wp2_with fail
      with_reducible refine (containsF_none _ _ _ J2 hm).mono ?_
      rintro e w' ⟨rfl, rfl⟩
      go_wp2
      go_ret
      exact ⟨rfl, hold⟩

end Go.Proofs.YtoeemehdkejhfaaDoor
