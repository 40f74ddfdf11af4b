/- slices.IndexFunc and ContainsFunc at bits; isShaped, isNotGood, Good. -/
import Derived.Test.YtgnakccbkglfpaaWd
namespace Go.Proofs.Ytgnakccbkglfpaa
open Go.RowKit
attribute [local irreducible] Bt.pop Bt.popF

/-- structs of three cells in a row -/
def Row3 (w : World) (B : Nat) (A : Option Addr) (n : Nat) (x y z : Nat → Value) : Prop :=
  0 < n → ∃ b o, A = some ⟨b, o, none⟩ ∧ b < B ∧ ∀ k, k < n → w.cell? ⟨b, o + k * 3, none⟩ = some (x k) ∧ w.cell? ⟨b, o + k * 3 + 1, none⟩ = some (y k) ∧ w.cell? ⟨b, o + k * 3 + 2, none⟩ = some (z k)
theorem Row3.on {w w' : World} {A : Option Addr} {n : Nat} {x y z : Nat → Value} (h : Row3 w w.heap.size A n x y z) (hb : Below w.heap.size w w') : Row3 w' w'.heap.size A n x y z := by
  intro hn
  obtain ⟨b, o, e, hlt, hc⟩ := h hn
  have := hb.size
  exact ⟨b, o, e, by omega, fun k hk => ⟨(hb.cell (p := ⟨b, o + k * 3, none⟩) hlt).trans (hc k hk).1, (hb.cell (p := ⟨b, o + k * 3 + 1, none⟩) hlt).trans (hc k hk).2.1, (hb.cell (p := ⟨b, o + k * 3 + 2, none⟩) hlt).trans (hc k hk).2.2⟩⟩

/-- does one of the first n answer yes -/
def anyQ (q : Nat → Bool) (n : Nat) : Bool := (List.range n).any q
theorem anyQ_succ (q : Nat → Bool) (n : Nat) : anyQ q (n + 1) = (anyQ q n || q n) := by unfold anyQ; rw [List.range_succ, List.any_append]; simp
theorem anyQ_true (q : Nat → Bool) (n k : Nat) (h : k < n) (hq : q k = true) : anyQ q n = true := by unfold anyQ; rw [List.any_eq_true]; exact ⟨k, by simpa using h, hq⟩
theorem anyQ_false (q : Nat → Bool) (n : Nat) (h : ∀ k, k < n → q k = false) : anyQ q n = false := by
  induction n with
  | zero => rfl
  | succ n ih => rw [anyQ_succ, ih (fun k hk => h k (by omega)), h n (by omega)]; rfl

/-- a function value that answers q of each -/
def Asks (G : Nat) (cb : Array Value) (n : Nat) (x y z : Nat → Value) (q : Nat → Bool) (w : World) : Prop :=
  ∀ W, Below w.heap.size w W → ∀ k, k < n → Calls Try.prog G (#[.agg #[x k, y k, z k]] ++ cb) W fun e w' => e = .returned (.bool (q k)) ∧ Below W.heap.size W w'

set_option maxHeartbeats 1000000 in
theorem indexBits_any (G : Nat) (cb : Array Value) (A : Option Addr) (n c : Nat) (x y z : Nat → Value) (q : Nat → Bool) (w : World) (eg : ∀ args w, (callFunc G args).run Try.prog w = .ok (.enter G args) w)
    (hr : Row3 w w.heap.size A n x y z) (hx : ∀ k, (x k).oneCell' = true) (hy : ∀ k, (y k).oneCell' = true) (hz : ∀ k, (z k).oneCell' = true) (hC : Asks G cb n x y z q w) (hn : n < 4611686018427387904) :
    Calls Try.prog 85 #[.slice A n c, .func (.func G) #[] cb] w fun e w' =>
      ∃ v : Int, e = .returned (.int .i64 v) ∧ decide (0 ≤ v) = anyQ q n ∧ Below w.heap.size w w' := by
  have HR : Hid (∀ W, Below w.heap.size w W → ∀ k, k < n → ∃ b o, A = some ⟨b, o, none⟩ ∧ W.cell? ⟨b, o + k * 3, none⟩ = some (x k) ∧ W.cell? ⟨b, o + k * 3 + 1, none⟩ = some (y k) ∧ W.cell? ⟨b, o + k * 3 + 2, none⟩ = some (z k)) := Lib.hid fun W h k hk => by
    obtain ⟨b, o, e, hb, hc⟩ := hr (by omega)
    obtain ⟨h1, h2, h3⟩ := hc k hk
    exact ⟨b, o, e, (h.cell (p := ⟨b, o + k * 3, none⟩) hb).trans h1, (h.cell (p := ⟨b, o + k * 3 + 1, none⟩) hb).trans h2, (h.cell (p := ⟨b, o + k * 3 + 2, none⟩) hb).trans h3⟩
  have HC := Lib.hid hC
  clear hr hC
  go_enter Try.func85, Try.ntmps85
  go_wp2
  go_loopw [8] (fun s wr => ∃ k : Nat, k ≤ n ∧ s = .int .i64 k ∧ Below w.heap.size w wr ∧ Hid (∀ i, i < k → q i = false)) (fun s _ => n - (intOf s).toNat)
  case atStart => exact ⟨0, Nat.zero_le _, rfl, Below.refl _ _, (fun i hi => absurd hi (by omega) : ∀ i, i < 0 → q i = false)⟩
  case round =>
    obtain ⟨k, hk, rfl, hb, I⟩ := hrel
    by_cases hlt : k < n
    · obtain ⟨b, o, rfl, hc1, hc2, hc3⟩ := HR.out wr hb k hlt
      have hlz : (k : Int) < (n : Int) := by omega
      have HCx := Lib.hid (HC.out wr hb k hlt)
      have HE : Hid (q k = true → anyQ q n = true) := Lib.hid (anyQ_true q n k hlt)
      have I2 : Hid (q k = false → ∀ i, i < k + 1 → q i = false) := Lib.hid fun h i hi => by
        rcases Nat.lt_succ_iff_lt_or_eq.1 hi with h' | h'
        · exact I.out i h'
        · rw [h']; exact h
      have x1 := hx k
      have y1 := hy k
      have z1 := hz k
      generalize x k = xk at *
      generalize y k = yk at *
      generalize z k = zk at *
      clear I HR HC hx hy hz
      cases hq : q k
      · have I3 := Lib.hid (I2.out hq)
        rw [hq] at HCx
        clear hq HE I2
        go_wp2_with fail
        with_reducible refine HCx.out.mono ?_
        rintro e w' ⟨rfl, hb'⟩
        have hb2 := hb.trans (hb'.mono hb.size)
        go_wp2
        go_roundw
        case rel => exact ⟨k + 1, by omega, by go_num, hb2, I3⟩
        case measure => simp [intOf]; omega
      · have I3 := Lib.hid (HE.out hq)
        rw [hq] at HCx
        clear hq HE I2
        go_wp2_with fail
        with_reducible refine HCx.out.mono ?_
        rintro e w' ⟨rfl, hb'⟩
        have hb2 := hb.trans (hb'.mono hb.size)
        go_wp2
        go_ret
        exact ⟨k, rfl, by rw [I3.out]; simp, hb2⟩
    · have hkn : k = n := by omega
      subst hkn
      have HA := Lib.hid (anyQ_false q k I.out)
      clear I
      go_wp2
      go_ret
      exact ⟨-1, rfl, by rw [HA.out]; rfl, hb⟩

theorem containsBits_any (G : Nat) (cb : Array Value) (A : Option Addr) (n c : Nat) (x y z : Nat → Value) (q : Nat → Bool) (w : World) (eg : ∀ args w, (callFunc G args).run Try.prog w = .ok (.enter G args) w)
    (hr : Row3 w w.heap.size A n x y z) (hx : ∀ k, (x k).oneCell' = true) (hy : ∀ k, (y k).oneCell' = true) (hz : ∀ k, (z k).oneCell' = true) (hC : Asks G cb n x y z q w) (hn : n < 4611686018427387904) :
    Calls Try.prog 73 #[.slice A n c, .func (.func G) #[] cb] w fun e w' =>
      e = .returned (.bool (anyQ q n)) ∧ Below w.heap.size w w' := by
  have HI := Lib.hid (indexBits_any G cb A n c x y z q w eg hr hx hy hz hC hn)
  clear hr hx hy hz hC eg
  go_enter Try.func73, Try.ntmps73
  go_wp2_with fail
  refine HI.out.mono ?_
  rintro e w' ⟨v, rfl, hv, hb⟩
  have HV := Lib.hid hv
  clear hv
  go_wp2
  go_ret
  exact ⟨by rw [← HV.out]; rfl, hb⟩

end Go.Proofs.Ytgnakccbkglfpaa
