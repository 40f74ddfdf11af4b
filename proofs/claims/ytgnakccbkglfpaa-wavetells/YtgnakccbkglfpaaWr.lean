/- Words for memory: the levels of a wave in the making; the closure of Make. -/
import Derived.Test.YtgnakccbkglfpaaWq
import Derived.Test.YtgnakccbkglfpaaWl
namespace Go.Proofs.Ytgnakccbkglfpaa
open Go.RowKit
attribute [local irreducible] Bt.pop Bt.popF

/-- a row of the call's own, and another world in which all blocks but new ones are as they were -/
theorem own_below' {w w' : World} {base : Nat} {e : TypeId} {size : Nat} {v : Value} {n : Nat} {xs : List Value} (h : w.ownsRow base e size v n xs) (hb : Below w.heap.size w w') : w'.ownsRow base e size v n xs := by
  refine ⟨h.1, ?_⟩
  rcases h.2 with h2 | ⟨g, cap, cur, hv, h1, hg, r⟩
  · exact .inl h2
  · refine .inr ⟨g, cap, cur, hv, h1, ?_, r⟩
    have hlt : g < w.heap.size := by
      rcases Nat.lt_or_ge g w.heap.size with h | h
      · exact h
      · rw [Array.getElem?_eq_none h] at hg; cases hg
    rw [hb.block g hlt, hg]
theorem IsBits.grown {w w' : World} {g g2 : Nat} {bs : List Bool} {r : Option Nat} (h : IsBits w w.heap.size (some ⟨g, 0, none⟩) (some ⟨g2, 0, none⟩) bs) (hg : w.grownBy w' r) (h1 : some g ≠ r) (h2 : some g2 ≠ r) : IsBits w' w'.heap.size (some ⟨g, 0, none⟩) (some ⟨g2, 0, none⟩) bs := by
  have k : ∀ {x n : Nat} {f : Nat → Value}, some x ≠ r → Row w w.heap.size (some ⟨x, 0, none⟩) n f → Row w' w'.heap.size (some ⟨x, 0, none⟩) n f := fun hx hr hn => by
    obtain ⟨b, o, e, hb, hc⟩ := hr hn
    injection e with e
    injection e with e1 e2
    subst e1 e2
    exact ⟨_, _, rfl, Nat.lt_of_lt_of_le hb hg.size, fun i hi => (hg.cell_far ⟨_, 0 + i, none⟩ hb hx).trans (hc i hi)⟩
  exact ⟨k h1 h.parts, k h2 h.ahead⟩
theorem IsBits.lt {w : World} {g g2 : Nat} {bs : List Bool} (h : IsBits w w.heap.size (some ⟨g, 0, none⟩) (some ⟨g2, 0, none⟩) bs) : g < w.heap.size ∧ g2 < w.heap.size := by
  obtain ⟨b, o, e, hb, _⟩ := h.parts (by omega)
  obtain ⟨b2, o2, e2, hb2, _⟩ := h.ahead (by omega)
  injection e with e; injection e with e1 _
  injection e2 with e2; injection e2 with e3 _
  subst e1 e3
  exact ⟨hb, hb2⟩

theorem IsBits.set {w : World} {g g2 : Nat} {bs : List Bool} (h : IsBits w w.heap.size (some ⟨g, 0, none⟩) (some ⟨g2, 0, none⟩) bs) (p : Addr) (u : Value) (h1 : p.block ≠ g) (h2 : p.block ≠ g2) : IsBits (w.setCell p u) (w.setCell p u).heap.size (some ⟨g, 0, none⟩) (some ⟨g2, 0, none⟩) bs := by
  have hs : (w.setCell p u).heap.size = w.heap.size := by simp
  have k : ∀ {x n : Nat} {f : Nat → Value}, p.block ≠ x → Row w w.heap.size (some ⟨x, 0, none⟩) n f → Row (w.setCell p u) (w.setCell p u).heap.size (some ⟨x, 0, none⟩) n f := fun hx hr hn => by
    obtain ⟨b, o, e, hb, hc⟩ := hr hn
    injection e with e
    injection e with e1 e2
    subst e1 e2
    exact ⟨_, _, rfl, by rw [hs]; exact hb, fun i hi => (World.cell?_setCell_far w p ⟨_, 0 + i, none⟩ u hx).trans (hc i hi)⟩
  exact ⟨k h1 h.parts, k h2 h.ahead⟩

/-- what the cells of level j tell -/
def LvX (base : Nat) (l : List Nat) (d j : Nat) (v : Value) (xs : List Value) (W : World) : Prop :=
  ∃ g g2 c1 c2, base ≤ g ∧ base ≤ g2 ∧ xs[j * 3]? = some (.int .i64 l.length) ∧ xs[j * 3 + 1]? = some (.slice (some ⟨g, 0, none⟩) (l.length / 64 + 1) c1) ∧ xs[j * 3 + 2]? = some (.slice (some ⟨g2, 0, none⟩) (l.length / 64 + 1) c2) ∧
    IsBits W W.heap.size (some ⟨g, 0, none⟩) (some ⟨g2, 0, none⟩) (Wv.lbits (d - 1 - j) (2 ^ j) l) ∧ some g ≠ v.ownBlock ∧ some g2 ≠ v.ownBlock
/-- k levels in the making -/
structure LvO (base : Nat) (l : List Nat) (d k : Nat) (v : Value) (xs : List Value) (W : World) : Prop where
  own : W.ownsRow base 27 3 v k xs
  each : ∀ j, j < k → LvX base l d j v xs W
theorem LvO.nil (base : Nat) (l : List Nat) (d : Nat) (W : World) : LvO base l d 0 (.slice none 0 0) [] W := ⟨World.ownsRow_nil _ _ _ _, fun j hj => absurd hj (by omega)⟩
theorem LvO.on {base : Nat} {l : List Nat} {d k : Nat} {v : Value} {xs : List Value} {W W' : World} (h : LvO base l d k v xs W) (hb : Below W.heap.size W W') : LvO base l d k v xs W' :=
  ⟨own_below' h.own hb, fun j hj => by
    obtain ⟨g, g2, c1, c2, b1, b2, h1, h2, h3, h4, h5⟩ := h.each j hj
    exact ⟨g, g2, c1, c2, b1, b2, h1, h2, h3, (h4.below hb).more hb.size, h5⟩⟩
/-- one level more -/
theorem LvO.app {base : Nat} {l : List Nat} {d k : Nat} {v v' : Value} {xs : List Value} {W W' : World} (h : LvO base l d k v xs W) (g g2 c1 c2 : Nat) (b1 : base ≤ g) (b2 : base ≤ g2)
    (hI : IsBits W W.heap.size (some ⟨g, 0, none⟩) (some ⟨g2, 0, none⟩) (Wv.lbits (d - 1 - k) (2 ^ k) l)) (n1 : some g ≠ v.ownBlock) (n2 : some g2 ≠ v.ownBlock)
    (hg : W.grownBy W' v.ownBlock) (hv : v'.ownBlock = v.ownBlock ∨ v'.ownBlock = some W.heap.size)
    (hnew : W'.ownsRow base 27 3 v' (k + 1) (xs ++ [.int .i64 l.length, .slice (some ⟨g, 0, none⟩) (l.length / 64 + 1) c1, .slice (some ⟨g2, 0, none⟩) (l.length / 64 + 1) c2])) :
    LvO base l d (k + 1) v' (xs ++ [.int .i64 l.length, .slice (some ⟨g, 0, none⟩) (l.length / 64 + 1) c1, .slice (some ⟨g2, 0, none⟩) (l.length / 64 + 1) c2]) W' := by
  have hlen : xs.length = k * 3 := h.own.1
  have hne' : ∀ x, x < W.heap.size → some x ≠ v.ownBlock → some x ≠ v'.ownBlock := fun x hlt hne he => by
    rcases hv with hv | hv
    · exact hne (by rw [he, hv])
    · rw [hv] at he; injection he with he; omega
  refine ⟨hnew, fun j hj => ?_⟩
  by_cases hjk : j < k
  · obtain ⟨a, a2, e1, e2, p1, p2, q1, q2, q3, q4, q5, q6⟩ := h.each j hjk
    obtain ⟨m1, m2⟩ := q4.lt
    refine ⟨a, a2, e1, e2, p1, p2, ?_, ?_, ?_, q4.grown hg q5 q6, hne' a m1 q5, hne' a2 m2 q6⟩
    · rw [List.getElem?_append_left (by omega)]; exact q1
    · rw [List.getElem?_append_left (by omega)]; exact q2
    · rw [List.getElem?_append_left (by omega)]; exact q3
  · obtain rfl : j = k := by omega
    obtain ⟨m1, m2⟩ := hI.lt
    refine ⟨g, g2, c1, c2, b1, b2, ?_, ?_, ?_, hI.grown hg n1 n2, hne' g m1 n1, hne' g2 m2 n2⟩
    · rw [List.getElem?_append_right (by omega), hlen, Nat.sub_self]; rfl
    · rw [List.getElem?_append_right (by omega), hlen, show j * 3 + 1 - j * 3 = 1 from by omega]; rfl
    · rw [List.getElem?_append_right (by omega), hlen, show j * 3 + 2 - j * 3 = 2 from by omega]; rfl
/-- all levels -/
theorem LvO.lv {base : Nat} {l : List Nat} {d : Nat} {A : Option Addr} {n c : Nat} {xs : List Value} {W : World} (h : LvO base l d d (.slice A n c) xs W) (hf : ∀ m ∈ l, m < 2 ^ d) : n = d ∧ d ≤ c ∧ LV W W.heap.size A d 0 l := by
  rcases h.own.2 with ⟨e, h0⟩ | ⟨g, cap, cur, e, _, hgc, hcap, _⟩
  · injection e with e1 e2 e3
    exact ⟨by omega, by omega, fun h => absurd h (by omega)⟩
  · injection e with e1 e2 e3
    subst e1 e2 e3
    have hlt : g < W.heap.size := by
      rcases Nat.lt_or_ge g W.heap.size with h' | h'
      · exact h'
      · rw [Array.getElem?_eq_none h'] at hgc; cases hgc
    refine ⟨rfl, hcap, fun _ => ⟨g, 0, rfl, hlt, fun j hj => ?_⟩⟩
    obtain ⟨a, a2, k1, k2, _, _, q1, q2, q3, q4, _⟩ := h.each j hj
    have hl : (Wv.lbits (n - 1 - j) (2 ^ (0 + j)) l).length = l.length := by
      rw [Nat.zero_add]
      exact Wv.lbits_len _ _ _ (by rw [show n - 1 - j + 1 + j = n from by omega]; exact hf)
    refine ⟨some ⟨a, 0, none⟩, k1, some ⟨a2, 0, none⟩, k2, ?_, ?_, ?_, by rw [Nat.zero_add]; exact q4⟩
    · rw [hl, Nat.zero_add, h.own.cellAt _ (by omega)]; exact q1
    · rw [hl, Nat.zero_add, h.own.cellAt _ (by omega)]; exact q2
    · rw [hl, Nat.zero_add, h.own.cellAt _ (by omega)]; exact q3

/-- the closure of Make -/
theorem make1_any (D K d k n : Nat) (w : World) (hD : w.cell? ⟨D, 0, none⟩ = some (.int .i64 d)) (hK : w.cell? ⟨K, 0, none⟩ = some (.int .i64 k)) (hn : n < 9223372036854775808) (hd : d ≤ 16) (hk : k < d) :
    Calls Try.prog 68 #[.int .i64 n, .pointer (some ⟨D, 0, none⟩), .pointer (some ⟨K, 0, none⟩)] w fun e w' => e = .returned (.bool (Wv.bit (d - 1 - k) n)) ∧ w = w' := by
  have HH := Lib.hid (fun W => hasOne_any n d k W hn hd hk)
  generalize Wv.bit (d - 1 - k) n = y at *
  go_enter Try.func68, Try.ntmps68
  go_wp2_with fail
  with_reducible refine (HH.out _).mono ?_
  rintro e w' ⟨rfl, rfl⟩
  go_wp2
  go_ret
  exact ⟨rfl, rfl⟩

/-- lists that hold the groups of level k -/
def GInv (l : List Nat) (d k : Nat) (gs : List (List Nat)) : Prop := Wv.full gs = Wv.full (Wv.groups (d - k) (2 ^ k) l) ∧ gs.length ≤ 2 ^ k
theorem GInv.flat {l : List Nat} {d k : Nat} {gs : List (List Nat)} (h : GInv l d k gs) : gs.flatten = Wv.lev (d - k) (2 ^ k) l := by
  rw [← Wv.flatten_full, h.1, Wv.flatten_full, Wv.flatten_groups]
theorem GInv.start (l : List Nat) (d : Nat) (hf : ∀ n ∈ l, n < 2 ^ d) : GInv l d 0 [l] := by
  refine ⟨?_, by simp⟩
  rw [Nat.sub_zero, Nat.pow_zero, Wv.groups_one d l hf]
theorem GInv.step {l : List Nat} {d k : Nat} {gs : List (List Nat)} (h : GInv l d k gs) (hk : k < d) : GInv l d (k + 1) (Wv.share (d - 1 - k) gs) := by
  have e : Wv.share (d - 1 - k) gs = Wv.full (Wv.groups (d - (k + 1)) (2 ^ (k + 1)) l) := by
    rw [← Wv.share_full, h.1, Wv.share_full, show d - k = d - 1 - k + 1 from by omega, Wv.share_groups, show d - 1 - k = d - (k + 1) from by omega, Nat.pow_succ, Nat.mul_comm]
  refine ⟨by rw [Wv.full_share, e], ?_⟩
  rw [e]
  unfold Wv.full
  exact Nat.le_trans (List.length_filter_le _ _) (by simp [Wv.groups])
theorem lev_mem (s m : Nat) (l : List Nat) (n : Nat) (h : n ∈ Wv.lev s m l) : n ∈ l := by
  unfold Wv.lev at h
  simp only [List.mem_flatMap] at h
  obtain ⟨p, _, hp⟩ := h
  exact (List.mem_filter.1 hp).1

end Go.Proofs.Ytgnakccbkglfpaa
