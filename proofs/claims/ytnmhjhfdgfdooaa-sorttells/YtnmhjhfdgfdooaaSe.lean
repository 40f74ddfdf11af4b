/- The two orders that sort.Ends hands over: by one number; by the ranks of k numbers here and of k more. -/
import Derived.Test.YtnmhjhfdgfdooaaSd
import Derived.Test.YtnmhjhfdgfdooaaMm
import Derived.Sort.Grow
namespace Go.Proofs.Ytnmhjhfdgfdooaa
open Go.RowKit

set_option maxHeartbeats 400000 in
/-- the order by one number -/
theorem order1_any (B : Nat) (A : Option Addr) (n c x y : Nat) (f : Nat → Int) (w : World) (hB : w.cell? ⟨B, 0, none⟩ = some (.slice A n c)) (hr : Row w w.heap.size A n (fun k => .int .i64 (f k))) (hx : x < n) (hy : y < n) (hn : n < 1152921504606846976) :
    Calls Try.prog 42 #[.int .i64 x, .int .i64 y, .pointer (some ⟨B, 0, none⟩)] w fun e w' => e = .returned (.int .i64 (En.ci (f x) (f y))) ∧ ∃ q, w' = w.drewN q := by
  obtain ⟨b, o, rfl, hb, hc⟩ := hr (by omega)
  have hc1 := hc x hx
  have hc2 := hc y hy
  have hxz : (x : Int) < (n : Int) := by omega
  have hyz : (y : Int) < (n : Int) := by omega
  clear hc hr
  go_enter Try.func42, Try.ntmps42
  go_wp2
  go_quiet ((go_at_call 43; refine Calls.quiet_of_same ((compare_any _ _ _).mono fun _ _ h => ⟨h.1, h.2.symm⟩)))
  go_wp2
  go_ret
  exact ⟨rfl, _, rfl⟩

theorem new2_0 (w : World) (u v : Value) (t : TypeId) : (w.alloc (.cells #[u, v] t)).cell? ⟨w.heap.size, 0, none⟩ = some u := by
  rw [World.cell?_alloc_at _ _ _ _ (by simp)]; rfl
theorem new2_1 (w : World) (u v : Value) (t : TypeId) : (w.alloc (.cells #[u, v] t)).cell? ⟨w.heap.size, 1, none⟩ = some v := by
  rw [World.cell?_alloc_at _ _ _ _ (by simp)]; rfl

theorem new2d_0 (w : World) (u v : Value) (t : TypeId) : (w.alloc (.cells #[u, v] t)).drew.cell? ⟨w.heap.size, 0, none⟩ = some u := (show (w.alloc (.cells #[u, v] t)).drew.cell? ⟨w.heap.size, 0, none⟩ = (w.alloc (.cells #[u, v] t)).cell? ⟨w.heap.size, 0, none⟩ from rfl).trans (new2_0 w u v t)
theorem new2d_1 (w : World) (u v : Value) (t : TypeId) : (w.alloc (.cells #[u, v] t)).drew.cell? ⟨w.heap.size, 1, none⟩ = some v := (show (w.alloc (.cells #[u, v] t)).drew.cell? ⟨w.heap.size, 1, none⟩ = (w.alloc (.cells #[u, v] t)).cell? ⟨w.heap.size, 1, none⟩ from rfl).trans (new2_1 w u v t)

set_option maxHeartbeats 1000000 in
/-- the order by ranks -/
theorem order2_any (B B2 g n x y k : Nat) (r : Nat → Nat) (w : World) (hB : w.cell? ⟨B, 0, none⟩ = some (.slice (some ⟨g, 0, none⟩) n n)) (hB2 : w.cell? ⟨B2, 0, none⟩ = some (.int .i64 k))
    (hg : g < w.heap.size) (hr : ∀ i, i < n → w.cell? ⟨g, i, none⟩ = some (.int .i64 (r i : Nat))) (hx : x < n) (hy : y < n) (hn : n < 1152921504606846976) (hk : k < 1152921504606846976) :
    Calls Try.prog 44 #[.int .i64 x, .int .i64 y, .pointer (some ⟨B, 0, none⟩), .pointer (some ⟨B2, 0, none⟩)] w fun e w' =>
      e = .returned (.int .i64 (orv (En.ci (r x) (r y)) (En.ci (En.rat n r (x + k)) (En.rat n r (y + k))))) ∧ ∃ q os, w' = Sort.grow (w.drewN q) os := by
  have hc1 := hr x hx
  have hc2 := hr y hy
  have hxz : (x : Int) < (n : Int) := by omega
  have hyz : (y : Int) < (n : Int) := by omega
  have hrow : ∀ W : World, (∀ p, W.cell? p = w.cell? p) → W.heap.size = w.heap.size → Row W W.heap.size (some ⟨g, 0, none⟩) n (fun k => .int .i64 (r k : Nat)) := fun W h1 h2 _ => ⟨g, 0, rfl, by rw [h2]; exact hg, fun i hi => by rw [Nat.zero_add, h1]; exact hr i hi⟩
  have hwx : IntKind.i64.wrap ((x : Int) + (k : Int)) = (x : Int) + (k : Int) := by simp [IntKind.wrap, IntKind.bits, IntKind.signed]; omega
  have hwy : IntKind.i64.wrap ((y : Int) + (k : Int)) = (y : Int) + (k : Int) := by simp [IntKind.wrap, IntKind.bits, IntKind.signed]; omega
  have hx1 : ∀ W : World, (∀ p, W.cell? p = w.cell? p) → W.heap.size = w.heap.size → Calls Try.prog 46 #[.slice (some ⟨g, 0, none⟩) n n, .int .i64 ((x : Int) + (k : Int))] W fun e w' => e = .returned (.int .i64 (En.rat n r (x + k))) ∧ W = w' := fun W h1 h2 => by
    have := rankAt_any (some ⟨g, 0, none⟩) n n (x + k) r W (hrow W h1 h2) (by omega) (by omega)
    rwa [show ((x + k : Nat) : Int) = (x : Int) + (k : Int) from by omega] at this
  have hy1 : ∀ W : World, (∀ p, W.cell? p = w.cell? p) → W.heap.size = w.heap.size → Calls Try.prog 46 #[.slice (some ⟨g, 0, none⟩) n n, .int .i64 ((y : Int) + (k : Int))] W fun e w' => e = .returned (.int .i64 (En.rat n r (y + k))) ∧ W = w' := fun W h1 h2 => by
    have := rankAt_any (some ⟨g, 0, none⟩) n n (y + k) r W (hrow W h1 h2) (by omega) (by omega)
    rwa [show ((y + k : Nat) : Int) = (y : Int) + (k : Int) from by omega] at this
  have HX := Lib.hid hx1
  have HY := Lib.hid hy1
  have HO := Lib.hid or_any
  have HC := Lib.hid (fun a b W => compare_any a b W)
  clear hx1 hy1 hrow hr
  generalize En.rat n r (x + k) = rx at *
  generalize En.rat n r (y + k) = ry at *
  generalize r x = px at *
  generalize r y = py at *
  go_enter Try.func44, Try.ntmps44
  go_wp2
  go_region_held3 (fun w' => w'.cell? ⟨B, 0, none⟩ = some (.slice (some ⟨g, 0, none⟩) n n) ∧ w'.cell? ⟨B2, 0, none⟩ = some (.int .i64 k) ∧ w'.cell? ⟨g, x, none⟩ = some (.int .i64 px) ∧ w'.cell? ⟨g, y, none⟩ = some (.int .i64 py)) (first | exact ⟨hB, hB2, hc1, hc2⟩ | go_keep)
    (first
      | (go_at_call 43; with_reducible refine (HC.out _ _ _).mono ?_; rintro e w1 ⟨rfl, rfl⟩)
      | (go_at_call 46; (first | (with_reducible refine (HX.out _ ?_ ?_).mono ?_) | (with_reducible refine (HY.out _ ?_ ?_).mono ?_)); (exact fun _ => rfl); (exact rfl); rintro e w2 ⟨rfl, rfl⟩)
      | (go_at_call 45; with_reducible refine (HO.out w.heap.size (En.ci px py) (En.ci rx ry) _ ?_ ?_).mono ?_; (exact new2d_0 w _ _ _); (exact new2d_1 w _ _ _); rintro e w3 ⟨rfl, rfl⟩))
  all_goals
    go_wp2
    go_ret
    exact ⟨rfl, 1, #[_], Sort.alloc_eq_grow w.drew _⟩

end Go.Proofs.Ytnmhjhfdgfdooaa
