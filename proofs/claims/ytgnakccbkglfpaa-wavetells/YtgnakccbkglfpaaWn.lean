/- slices.IndexFunc and ContainsFunc at numbers, whatever function is asked; allBelow. -/
import Derived.Test.YtgnakccbkglfpaaWe
import Derived.Test.YtgnakccbkglfpaaMg
import Derived.Shelf.Abstract
namespace Go.Proofs.Ytgnakccbkglfpaa
open Go.RowKit

/-- a function value that answers q of each, and leaves all as it was -/
def AsksI (G : Nat) (cb : Array Value) (f : Nat → Int) (n : Nat) (q : Nat → Bool) (w : World) : Prop :=
  ∀ k, k < n → Calls Try.prog G (#[.int .i64 (f k)] ++ cb) w fun e w' => e = .returned (.bool (q k)) ∧ w = w'

set_option maxHeartbeats 1000000 in
theorem indexInts_any (G : Nat) (cb : Array Value) (A : Option Addr) (n c : Nat) (f : Nat → Int) (q : Nat → Bool) (w : World) (eg : ∀ args w, (callFunc G args).run Try.prog w = .ok (.enter G args) w)
    (hr : Row w w.heap.size A n (fun k => .int .i64 (f k))) (hC : AsksI G cb f n q w) (hn : n < 4611686018427387904) :
    Calls Try.prog 82 #[.slice A n c, .func (.func G) #[] cb] w fun e w' =>
      ∃ v : Int, e = .returned (.int .i64 v) ∧ decide (0 ≤ v) = anyQ q n ∧ w = w' := by
  have HC := Lib.hid hC
  clear hC
  go_enter Try.func82, Try.ntmps82
  go_wp2
  go_loopw [8] (fun s wr => ∃ k : Nat, k ≤ n ∧ s = .int .i64 k ∧ wr = w ∧ Hid (∀ i, i < k → q i = false)) (fun s _ => n - (intOf s).toNat)
  case atStart => exact ⟨0, Nat.zero_le _, rfl, rfl, (fun i hi => absurd hi (by omega) : ∀ i, i < 0 → q i = false)⟩
  case round =>
    obtain ⟨k, hk, rfl, rfl, I⟩ := hrel
    by_cases hlt : k < n
    · obtain ⟨x, o, rfl, hx, hc⟩ := hr (by omega)
      have hc1 : wr.cell? ⟨x, o + k, none⟩ = some (.int .i64 (f k)) := hc k hlt
      have hlz : (k : Int) < (n : Int) := by omega
      have HCx := Lib.hid (HC.out k hlt)
      have HE : Hid (q k = true → anyQ q n = true) := Lib.hid (anyQ_true q n k hlt)
      have I2 : Hid (q k = false → ∀ i, i < k + 1 → q i = false) := Lib.hid fun h i hi => by
        rcases Nat.lt_succ_iff_lt_or_eq.1 hi with h' | h'
        · exact I.out i h'
        · rw [h']; exact h
      clear hc hr I HC
      generalize f k = y at *
      cases hq : q k
      · have I3 := Lib.hid (I2.out hq)
        rw [hq] at HCx
        clear hq HE I2
        go_wp2_with fail
        with_reducible refine HCx.out.mono ?_
        rintro e w' ⟨rfl, rfl⟩
        go_wp2
        go_roundw
        case rel => exact ⟨k + 1, by omega, by go_num, by first | rfl | trivial, I3⟩
        case measure => simp [intOf]; omega
      · have I3 := Lib.hid (HE.out hq)
        rw [hq] at HCx
        clear hq HE I2
        go_wp2_with fail
        with_reducible refine HCx.out.mono ?_
        rintro e w' ⟨rfl, rfl⟩
        go_wp2
        go_ret
        exact ⟨k, rfl, by rw [I3.out]; simp, rfl⟩
    · have hkn : k = n := by omega
      subst hkn
      have HA := Lib.hid (anyQ_false q k I.out)
      clear I
      go_wp2
      go_ret
      exact ⟨-1, rfl, by rw [HA.out]; rfl, rfl⟩

theorem containsInts_any (G : Nat) (cb : Array Value) (A : Option Addr) (n c : Nat) (f : Nat → Int) (q : Nat → Bool) (w : World) (eg : ∀ args w, (callFunc G args).run Try.prog w = .ok (.enter G args) w)
    (hr : Row w w.heap.size A n (fun k => .int .i64 (f k))) (hC : AsksI G cb f n q w) (hn : n < 4611686018427387904) :
    Calls Try.prog 63 #[.slice A n c, .func (.func G) #[] cb] w fun e w' => e = .returned (.bool (anyQ q n)) ∧ w = w' := by
  have HI := Lib.hid (indexInts_any G cb A n c f q w eg hr hC hn)
  clear hr hC eg
  go_enter Try.func63, Try.ntmps63
  go_wp2_with fail
  refine HI.out.mono ?_
  rintro e w' ⟨v, rfl, hv, rfl⟩
  have HV := Lib.hid hv
  clear hv
  go_wp2
  go_ret
  exact ⟨by rw [← HV.out]; rfl, rfl⟩

/-- is a number outside -/
def outQ (b x : Int) : Bool := decide (x < 0) || decide (b ≤ x)
theorem allBelow1_any (B : Nat) (b x : Int) (w : World) (hB : w.cell? ⟨B, 0, none⟩ = some (.int .i64 b)) :
    Calls Try.prog 83 #[.int .i64 x, .pointer (some ⟨B, 0, none⟩)] w fun e w' => e = .returned (.bool (outQ b x)) ∧ w = w' := by
  unfold outQ
  by_cases h : x < 0
  · have HH := Lib.hid (show decide (x < 0) = true by simp [h])
    go_enter Try.func83, Try.ntmps83
    go_wp2
    go_ret
    exact ⟨by first | rfl | (rw [HH.out]; rfl), rfl⟩
  · have HH := Lib.hid (show decide (x < 0) = false by simp [h])
    go_enter Try.func83, Try.ntmps83
    go_wp2
    go_ret
    exact ⟨by first | rfl | (rw [HH.out]; rfl), rfl⟩

/-- are all numbers inside -/
def insB (b : Int) (l : List Int) : Bool := !anyQ (fun k => outQ b (l.getD k 0)) l.length

theorem allBelow_any (A : Option Addr) (c : Nat) (l : List Int) (b : Int) (w : World) (hr : IRow w w.heap.size A l) (hn : l.length < 4611686018427387904) :
    Calls Try.prog 67 #[.slice A l.length c, .int .i64 b] w fun e w' => e = .returned (.bool (insB b l)) ∧ Below w.heap.size w w' := by
  have hb0 : Below w.heap.size w (w.alloc (.cells #[.int .i64 b] 3)) := (Below.refl _ _).alloc (Nat.le_refl _) _
  have HC := Lib.hid (containsInts_any 83 #[.pointer (some ⟨w.heap.size, 0, none⟩)] A l.length c (fun k => l.getD k 0) (fun k => outQ b (l.getD k 0)) (w.alloc (.cells #[.int .i64 b] 3)) (enters_of Try.func83 (by kernel_rfl) rfl) (hr.on hb0)
    (fun k _ => allBelow1_any w.heap.size b (l.getD k 0) _ (by simp)) hn)
  unfold insB
  clear hr
  generalize anyQ (fun k => outQ b (l.getD k 0)) l.length = r at *
  generalize l.length = n at *
  go_enter Try.func67, Try.ntmps67
  go_wp2_with fail
  with_reducible refine HC.out.mono ?_
  rintro e w' ⟨rfl, rfl⟩
  go_wp2
  go_ret
  exact ⟨rfl, hb0⟩

/-- numbers that are inside, as numbers from 0 on -/
theorem insB_yes (b : Nat) (l : List Int) (h : insB b l = true) : ∃ m : List Nat, l = m.map (fun (n : Nat) => (n : Int)) ∧ ∀ n ∈ m, n < b := by
  have hx : ∀ x ∈ l, 0 ≤ x ∧ x < (b : Int) := by
    intro x hx
    obtain ⟨k, hk, rfl⟩ := List.getElem_of_mem hx
    rcases Bool.eq_false_or_eq_true (outQ b l[k]) with ho | ho
    · have := anyQ_true (fun k => outQ b (l.getD k 0)) l.length k hk (by rw [show l.getD k 0 = l[k] from by simp [hk]]; exact ho)
      unfold insB at h
      rw [this] at h; cases h
    · unfold outQ at ho
      simp at ho; omega
  refine ⟨l.map Int.toNat, ?_, ?_⟩
  · rw [List.map_map]
    conv => lhs; rw [← List.map_id l]
    apply List.map_congr_left
    intro x h'
    have := hx x h'
    simp; omega
  · intro n hn
    simp only [List.mem_map] at hn
    obtain ⟨x, h1, rfl⟩ := hn
    have := hx x h1; omega
theorem insB_of (b : Nat) (m : List Nat) (h : ∀ n ∈ m, n < b) : insB b (m.map (fun (n : Nat) => (n : Int))) = true := by
  unfold insB
  rw [anyQ_false]
  · rfl
  · intro k hk
    rw [List.length_map] at hk
    have h1 : (m.map (fun (n : Nat) => (n : Int))).getD k 0 = (m[k] : Int) := by simp [hk]
    have h2 := h m[k] (List.getElem_mem hk)
    rw [h1]; unfold outQ; simp; omega

end Go.Proofs.Ytgnakccbkglfpaa
