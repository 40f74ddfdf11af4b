/- Is one end ahead of another, as the reference tells it. -/
import Derived.Test.YtnmhjhfdgfdooaaSp
namespace Go.Proofs.Ytnmhjhfdgfdooaa
open Go.RowKit

/-- what two ends have in common, and how they part -/
structure Parts (f : Nat → Int) (n a b L : Nat) (r : Bool) : Prop where
  a2 : a + L ≤ n
  b2 : b + L ≤ n
  same : ∀ k, k < L → f (a + k) = f (b + k)
  both : a + L < n → b + L < n → f (a + L) ≠ f (b + L) ∧ r = decide (f (a + L) < f (b + L))
  left_ : a + L < n → ¬ b + L < n → r = false
  right_ : ¬ a + L < n → r = decide (b + L < n)

theorem parts_of (l : List Int) (a b : Nat) (ha : a ≤ l.length) (hb : b ≤ l.length) : Parts (fun k => l.getD k 0) l.length a b (En.lcp (l.drop a) (l.drop b)) (decide (En.cl (l.drop a) (l.drop b) < 0)) := by
  have hle := En.lcp_le (l.drop a) (l.drop b)
  have hget := En.lcp_get (l.drop a) (l.drop b)
  have hend := En.lcp_end (l.drop a) (l.drop b)
  have hcl := En.cl_of_lcp (l.drop a) (l.drop b)
  rw [hcl]
  clear hcl
  generalize En.lcp (l.drop a) (l.drop b) = L at *
  simp only [List.length_drop] at hle hend ⊢
  have g : ∀ c j, (l.drop c).getD j 0 = l.getD (c + j) 0 := fun c j => by simp
  simp only [g] at hget hend ⊢
  refine ⟨by omega, by omega, hget, fun h1 h2 => ⟨hend (by omega) (by omega), ?_⟩, fun h1 h2 => ?_, fun h1 => ?_⟩
  · rw [if_pos (by omega), if_pos (by omega)]
    by_cases h : l.getD (a + L) 0 < l.getD (b + L) 0
    · rw [if_pos h, decide_eq_true h]; rfl
    · rw [if_neg h, decide_eq_false h]; rfl
  · rw [if_pos (by omega), if_neg (by omega)]; rfl
  · rw [if_neg (by omega)]
    by_cases h : b + L < l.length
    · rw [if_pos (by omega)]; simp [h]
    · rw [if_neg (by omega)]; simp [h]

set_option maxHeartbeats 1000000 in
theorem refAhead_any (A : Option Addr) (c : Nat) (l : List Int) (a b : Nat) (w : World) (hr : IRow w w.heap.size A l) (hn : l.length ≤ 17592186044416) (ha : a ≤ l.length) (hb : b ≤ l.length) :
    Calls Try.prog 47 #[.slice A l.length c, .int .i64 a, .int .i64 b] w fun e w' => e = .returned (.bool (decide (En.cl (l.drop a) (l.drop b) < 0))) ∧ ∃ q, w' = w.drewN q := by
  obtain ⟨f, hf⟩ : ∃ f : Nat → Int, f = fun k => l.getD k 0 := ⟨_, rfl⟩
  have P := parts_of l a b ha hb
  have Hr : Row w w.heap.size A l.length (fun i => .int .i64 (f i)) := by rw [hf]; exact hr
  rw [← hf] at P
  clear hf hr
  generalize decide (En.cl (l.drop a) (l.drop b) < 0) = r at *
  generalize En.lcp (l.drop a) (l.drop b) = L at *
  generalize l.length = n at *
  obtain ⟨pa, pb, ps, p1, p2, p3⟩ := P
  have HS := Lib.hid ps
  have H1 := Lib.hid p1
  have H2 := Lib.hid p2
  have H3 := Lib.hid p3
  clear ps p1 p2 p3
  go_enter Try.func47, Try.ntmps47
  go_wp2
  go_loopw [1, 2] (fun s1 s2 W => ∃ j q : Nat, j ≤ L ∧ s1 = .int .i64 ((a + j : Nat) : Int) ∧ s2 = .int .i64 ((b + j : Nat) : Int) ∧ W = w.drewN q) (fun s1 _ _ => n - (intOf s1).toNat)
  case atStart => exact ⟨0, 0, Nat.zero_le _, rfl, rfl, rfl⟩
  case round =>
    obtain ⟨j, q, hj, rfl, rfl, rfl⟩ := hrel
    by_cases hlt : j < L
    · obtain ⟨x, o, rfl, hx, hc⟩ := Hr (by omega)
      have c1 : w.cell? ⟨x, o + (a + j), none⟩ = some (.int .i64 (f (a + j))) := hc (a + j) (by omega)
      have c2 : w.cell? ⟨x, o + (b + j), none⟩ = some (.int .i64 (f (b + j))) := hc (b + j) (by omega)
      have e1 : (f (a + j) != f (b + j)) = false := by simp [HS.out j hlt]
      have h1 : a + j < n := by omega
      have h2 : b + j < n := by omega
      have hgoal : ∃ j' : Nat, j' = j + 1 ∧ j' ≤ L ∧ a + j' = a + j + 1 ∧ b + j' = b + j + 1 := ⟨j + 1, rfl, by omega, by omega, by omega⟩
      have Hg := Lib.hid hgoal
      generalize hA1 : a + j = a1 at *
      generalize hB1 : b + j = b1 at *
      have z1 : (a1 : Int) < (n : Int) := by omega
      have z2 : (b1 : Int) < (n : Int) := by omega
      clear hc Hr hgoal hA1 hB1 HS H1 H2 H3
      generalize f a1 = fa at *
      generalize f b1 = fb at *
      go_wp2
      go_quiet (fail)
      go_wp2
      go_roundw
      case rel =>
        obtain ⟨j', _, h3, h4, h5⟩ := Hg.out
        exact ⟨j', _, h3, by rw [h4]; go_num, by rw [h5]; go_num, rfl⟩
      case measure => simp [intOf]; omega
    · have hjL : j = L := by omega
      subst hjL
      by_cases h1 : a + j < n
      · by_cases h2 : b + j < n
        · obtain ⟨x, o, rfl, hx, hc⟩ := Hr (by omega)
          have c1 : w.cell? ⟨x, o + (a + j), none⟩ = some (.int .i64 (f (a + j))) := hc (a + j) (by omega)
          have c2 : w.cell? ⟨x, o + (b + j), none⟩ = some (.int .i64 (f (b + j))) := hc (b + j) (by omega)
          obtain ⟨hne, hrr⟩ := H1.out h1 h2
          have e1 : (f (a + j) != f (b + j)) = true := by simp [hne]
          generalize a + j = a1 at *
          generalize b + j = b1 at *
          have z1 : (a1 : Int) < (n : Int) := by omega
          have z2 : (b1 : Int) < (n : Int) := by omega
          have HR := Lib.hid hrr
          clear hc Hr HS H1 H2 H3 hne hrr
          generalize f a1 = fa at *
          generalize f b1 = fb at *
          go_wp2
          go_quiet (fail)
          go_wp2
          go_quiet (fail)
          go_wp2
          go_ret
          exact ⟨by rw [HR.out]; rfl, _, by rw [World.drewN_drewN, World.drewN_drewN]⟩
        · have hrr := H2.out h1 h2
          subst hrr
          generalize a + j = a1 at *
          generalize b + j = b1 at *
          have z1 : (a1 : Int) < (n : Int) := by omega
          have z2 : ¬ (b1 : Int) < (n : Int) := by omega
          have z3 : ((a1 : Int) == (n : Int)) = false := by simp; omega
          clear Hr HS H1 H2 H3
          go_wp2
          go_ret
          exact ⟨rfl, _, rfl⟩
      · have hrr := H3.out h1
        have z3 : (((a + j : Nat) : Int) == (n : Int)) = true := by simp; omega
        have z1 : ¬ ((a + j : Nat) : Int) < (n : Int) := by omega
        by_cases h2 : b + j < n
        · have hr2 : r = true := by rw [hrr]; simp [h2]
          subst hr2
          generalize a + j = a1 at *
          generalize b + j = b1 at *
          have z2 : (b1 : Int) < (n : Int) := by omega
          clear Hr HS H1 H2 H3 hrr
          go_wp2
          go_ret
          exact ⟨rfl, _, rfl⟩
        · have hr2 : r = false := by rw [hrr]; simp [h2]
          subst hr2
          generalize a + j = a1 at *
          generalize b + j = b1 at *
          have z2 : ¬ (b1 : Int) < (n : Int) := by omega
          clear Hr HS H1 H2 H3 hrr
          go_wp2
          go_ret
          exact ⟨rfl, _, rfl⟩

end Go.Proofs.Ytnmhjhfdgfdooaa
