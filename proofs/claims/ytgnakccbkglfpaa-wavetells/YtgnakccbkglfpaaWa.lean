/- Plain mathematics of numbers as levels of bits: groups of numbers whose first bits are the same, the levels, counts, kinds. No program is named here. -/
import Derived.Test.YtgnakccbkglfpaaMb
namespace Go.Proofs.Ytgnakccbkglfpaa
namespace Wv

/-- the bit s of a number -/
def bit (s n : Nat) : Bool := n / 2 ^ s % 2 == 1
/-- those numbers that are p but for their last s bits -/
def grp (s p : Nat) (l : List Nat) : List Nat := l.filter fun n => n / 2 ^ s == p
/-- the groups of the first m numbers, one behind the other -/
def lev (s m : Nat) (l : List Nat) : List Nat := (List.range m).flatMap fun p => grp s p l
/-- how many there are -/
def cnt (s p : Nat) (l : List Nat) : Nat := (grp s p l).length
/-- where a group begins -/
def st (s p : Nat) (l : List Nat) : Nat := (lev s p l).length
/-- the bits of a level: bit s, the numbers in groups by what is above it -/
def lbits (s m : Nat) (l : List Nat) : List Bool := (lev (s + 1) m l).map (bit s)
/-- the child of a group -/
def kid (p : Nat) (one : Bool) : Nat := 2 * p + one.toNat

theorem div_succ (s n : Nat) : n / 2 ^ (s + 1) = n / 2 ^ s / 2 := by rw [Nat.pow_succ, Nat.div_div_eq_div_mul]
theorem kid_bit (s n : Nat) : kid (n / 2 ^ (s + 1)) (bit s n) = n / 2 ^ s := by
  unfold kid bit; rw [div_succ]
  generalize n / 2 ^ s = m
  rcases Nat.mod_two_eq_zero_or_one m with h | h <;> simp [h] <;> omega
theorem kid_iff (s p n : Nat) (one : Bool) : (n / 2 ^ s == kid p one) = (n / 2 ^ (s + 1) == p && bit s n == one) := by
  unfold kid bit; rw [div_succ]
  generalize n / 2 ^ s = m
  cases one
  · rcases Nat.mod_two_eq_zero_or_one m with h | h <;> rw [h, Bool.eq_iff_iff] <;> simp <;> omega
  · rcases Nat.mod_two_eq_zero_or_one m with h | h <;> rw [h, Bool.eq_iff_iff] <;> simp <;> omega

theorem grp_append (s p : Nat) (a b : List Nat) : grp s p (a ++ b) = grp s p a ++ grp s p b := by unfold grp; exact List.filter_append ..
theorem cnt_append (s p : Nat) (a b : List Nat) : cnt s p (a ++ b) = cnt s p a + cnt s p b := by unfold cnt; rw [grp_append, List.length_append]
theorem grp_kid (s p : Nat) (one : Bool) (l : List Nat) : grp s (kid p one) l = (grp (s + 1) p l).filter (fun n => bit s n == one) := by
  unfold grp
  rw [List.filter_filter]
  apply List.filter_congr
  intro n _
  rw [kid_iff, Bool.and_comm]
theorem cnt_two (s p : Nat) (l : List Nat) : cnt (s + 1) p l = cnt s (kid p false) l + cnt s (kid p true) l := by
  unfold cnt
  rw [grp_kid, grp_kid]
  induction grp (s + 1) p l with
  | nil => rfl
  | cons n g ih =>
    rw [List.length_cons, ih, List.filter_cons, List.filter_cons]
    cases h : bit s n
    · rw [if_pos (by rfl), if_neg (by decide), List.length_cons]; omega
    · rw [if_neg (by decide), if_pos (by rfl), List.length_cons]; omega
theorem ones_map (s : Nat) (g : List Nat) : Bt.ones (g.map (bit s)) = (g.filter (fun n => bit s n == true)).length := by
  induction g with
  | nil => rfl
  | cons n g ih => rw [List.map_cons, Bt.ones_cons, ih]; cases h : bit s n <;> simp [h]; omega
theorem ones_grp (s p : Nat) (l : List Nat) : Bt.ones ((grp (s + 1) p l).map (bit s)) = cnt s (kid p true) l := by
  rw [ones_map]; unfold cnt; rw [grp_kid]

theorem lev_succ (s m : Nat) (l : List Nat) : lev s (m + 1) l = lev s m l ++ grp s m l := by
  unfold lev
  rw [List.range_succ, List.flatMap_append]; simp
theorem st_zero (s : Nat) (l : List Nat) : st s 0 l = 0 := rfl
theorem st_succ (s p : Nat) (l : List Nat) : st s (p + 1) l = st s p l + cnt s p l := by unfold st cnt; rw [lev_succ, List.length_append]
theorem st_kid (s p : Nat) (l : List Nat) : st s (2 * p) l = st (s + 1) p l := by
  induction p with
  | zero => rfl
  | succ p ih =>
    rw [show 2 * (p + 1) = 2 * p + 1 + 1 from by omega, st_succ, st_succ, ih, st_succ, cnt_two]
    simp only [kid, Bool.toNat_false, Bool.toNat_true, Nat.add_zero]
    omega
theorem st_kid0 (s p : Nat) (l : List Nat) : st s (kid p false) l = st (s + 1) p l := by simp [kid, st_kid]
theorem st_kid1 (s p : Nat) (l : List Nat) : st s (kid p true) l = st (s + 1) p l + cnt s (kid p false) l := by
  simp only [kid, Bool.toNat_false, Bool.toNat_true, Nat.add_zero]
  rw [st_succ, st_kid]
theorem st_kid2 (s p : Nat) (l : List Nat) : st s (kid p true + 1) l = st (s + 1) (p + 1) l := by
  simp only [kid, Bool.toNat_true]
  rw [← st_kid]; rfl
theorem st_kid01 (s p : Nat) (l : List Nat) : st s (kid p false + 1) l = st (s + 1) p l + cnt s (kid p false) l := by
  rw [st_succ, st_kid0]
theorem lev_split (s p : Nat) (l : List Nat) : ∀ m, p < m → ∃ r, lev s m l = lev s p l ++ grp s p l ++ r := by
  intro m
  induction m with
  | zero => intro h; omega
  | succ m ih =>
    intro h
    by_cases hp : p = m
    · subst hp; exact ⟨[], by rw [lev_succ, List.append_nil]⟩
    · obtain ⟨r, hr⟩ := ih (by omega)
      exact ⟨r ++ grp s m l, by rw [lev_succ, hr, List.append_assoc]⟩
theorem st_mono (s p m : Nat) (l : List Nat) (h : p < m) : st s p l + cnt s p l ≤ st s m l := by
  obtain ⟨r, hr⟩ := lev_split s p l m h
  unfold st cnt; rw [hr]; simp <;> omega
theorem cnt_take (s p i : Nat) (l : List Nat) : cnt s p (l.take i) + cnt s p (l.drop i) = cnt s p l := by
  rw [← cnt_append, List.take_append_drop]
theorem cnt_take_le (s p i : Nat) (l : List Nat) : cnt s p (l.take i) ≤ cnt s p l := by have := cnt_take s p i l; omega
theorem grp_take (s p i : Nat) (l : List Nat) : (grp s p l).take (cnt s p (l.take i)) = grp s p (l.take i) := by
  have h : grp s p l = grp s p (l.take i) ++ grp s p (l.drop i) := by rw [← grp_append, List.take_append_drop]
  rw [h]; unfold cnt; rw [List.take_left]

/-- THE COUNT: ones of a level ahead of the place that lies in a group behind its first ones -/
theorem ones_lev (s p m i : Nat) (l : List Nat) (h : p < m) :
    Bt.ones ((lbits s m l).take (st (s + 1) p l + cnt (s + 1) p (l.take i))) = Bt.ones ((lbits s m l).take (st (s + 1) p l)) + cnt s (kid p true) (l.take i) := by
  obtain ⟨r, hr⟩ := lev_split (s + 1) p l m h
  unfold lbits
  rw [← List.map_take, ← List.map_take, hr]
  have e1 : (lev (s + 1) p l ++ grp (s + 1) p l ++ r).take (st (s + 1) p l) = lev (s + 1) p l := by
    unfold st; rw [List.append_assoc, List.take_left]
  have e2 : (lev (s + 1) p l ++ grp (s + 1) p l ++ r).take (st (s + 1) p l + cnt (s + 1) p (l.take i)) = lev (s + 1) p l ++ grp (s + 1) p (l.take i) := by
    have hc := cnt_take_le (s + 1) p i l
    unfold st
    rw [List.append_assoc, List.take_length_add_append, List.take_append_of_le_length (by unfold cnt at hc ⊢; omega), grp_take]
  rw [e1, e2, List.map_append, Bt.ones_append, ones_grp]
/-- THE BIT of the number at a place of the list -/
theorem bit_lev (s m i : Nat) (l : List Nat) (hi : i < l.length) (h : l.getD i 0 / 2 ^ (s + 1) < m) :
    (lbits s m l).getD (st (s + 1) (l.getD i 0 / 2 ^ (s + 1)) l + cnt (s + 1) (l.getD i 0 / 2 ^ (s + 1)) (l.take i)) false = bit s (l.getD i 0) := by
  generalize hp : l.getD i 0 / 2 ^ (s + 1) = p at *
  obtain ⟨r, hr⟩ := lev_split (s + 1) p l m h
  have hl : l = l.take i ++ (l.getD i 0 :: l.drop (i + 1)) := by
    rw [List.getD_eq_getElem?_getD, List.getElem?_eq_getElem hi, Option.getD_some, List.getElem_cons_drop, List.take_append_drop]
  have hg : grp (s + 1) p l = grp (s + 1) p (l.take i) ++ l.getD i 0 :: grp (s + 1) p (l.drop (i + 1)) := by
    conv => lhs; rw [hl]
    rw [grp_append]
    congr 1
    unfold grp
    rw [List.filter_cons, if_pos (by rw [hp]; simp)]
  unfold lbits
  rw [hr, hg]
  simp only [List.map_append, List.map_cons, List.append_assoc, List.getD_eq_getElem?_getD]
  rw [List.getElem?_append_right (by simp [st]), List.getElem?_append_right (by simp [st, cnt])]
  simp [st, cnt]

/-- the whole -/
theorem cnt_whole (s : Nat) (l : List Nat) (h : ∀ n ∈ l, n < 2 ^ s) : cnt s 0 l = l.length := by
  unfold cnt grp
  rw [List.filter_eq_self.2]
  intro n hn
  simp [Nat.div_eq_of_lt (h n hn)]
theorem cnt_leaf (p : Nat) (l : List Nat) : cnt 0 p l = l.count p := by
  unfold cnt grp
  rw [List.count_eq_countP, List.countP_eq_length_filter]
  congr 2
  funext n; simp
theorem cnt_out (s p : Nat) (l : List Nat) (d : Nat) (h : ∀ n ∈ l, n < 2 ^ (s + d)) (hp : 2 ^ d ≤ p) : cnt s p l = 0 := by
  unfold cnt grp
  rw [List.length_eq_zero_iff, List.filter_eq_nil_iff]
  intro n hn e
  have h1 := h n hn
  rw [Nat.pow_add] at h1
  have := Nat.div_lt_of_lt_mul h1
  simp at e; omega
/-- a level has all numbers -/
theorem st_all (s d : Nat) (l : List Nat) (h : ∀ n ∈ l, n < 2 ^ (s + d)) : st s (2 ^ d) l = l.length := by
  induction d generalizing s with
  | zero => rw [show 2 ^ 0 = 0 + 1 from rfl, st_succ, st_zero, cnt_whole s l h]; omega
  | succ d ih =>
    rw [Nat.pow_succ, Nat.mul_comm, st_kid, ih (s + 1) (by rw [show s + 1 + d = s + (d + 1) from by omega]; exact h)]
theorem lbits_len (s d : Nat) (l : List Nat) (h : ∀ n ∈ l, n < 2 ^ (s + 1 + d)) : (lbits s (2 ^ d) l).length = l.length := by
  unfold lbits; rw [List.length_map]; exact st_all (s + 1) d l h

/-- KINDS: the unlike numbers of a group of which there are more ahead of j than ahead of i -/
def ks (l : List Nat) (i j : Nat) : Nat → Nat → List Nat
  | 0, p => if cnt 0 p (l.take i) < cnt 0 p (l.take j) then [p] else []
  | s + 1, p => ks l i j s (kid p false) ++ ks l i j s (kid p true)
theorem cnt_mono (s p i j : Nat) (l : List Nat) (h : i ≤ j) : cnt s p (l.take i) ≤ cnt s p (l.take j) := by
  have e : l.take i = (l.take j).take i := by rw [List.take_take, Nat.min_eq_left h]
  rw [e]; exact cnt_take_le s p i _
theorem kids_no (l : List Nat) (i j s p : Nat) (one : Bool) (h : cnt (s + 1) p (l.take j) ≤ cnt (s + 1) p (l.take i)) : cnt s (kid p one) (l.take j) ≤ cnt s (kid p one) (l.take i) := by
  rw [cnt_two, cnt_two] at h
  rcases Nat.le_total i j with hij | hij
  · have h0 := cnt_mono s (kid p false) i j l hij
    have h1 := cnt_mono s (kid p true) i j l hij
    cases one <;> omega
  · exact cnt_mono s _ j i l hij
theorem ks_no (l : List Nat) (i j s : Nat) : ∀ p, cnt s p (l.take j) ≤ cnt s p (l.take i) → ks l i j s p = [] := by
  induction s with
  | zero => intro p h; unfold ks; rw [if_neg (by omega)]
  | succ s ih => intro p h; unfold ks; rw [ih _ (kids_no l i j s p false h), ih _ (kids_no l i j s p true h)]; rfl
def kinds (l : List Nat) (i j : Nat) (m : Nat) : List Nat := (List.range m).filter fun v => decide ((l.take i).count v < (l.take j).count v)
theorem ks_eq (l : List Nat) (i j s : Nat) : ∀ p, ks l i j s p = ((List.range (2 ^ s)).map (p * 2 ^ s + ·)).filter fun v => decide ((l.take i).count v < (l.take j).count v) := by
  induction s with
  | zero =>
    intro p
    unfold ks
    rw [cnt_leaf, cnt_leaf]
    by_cases h : (l.take i).count p < (l.take j).count p <;> simp [h]
  | succ s ih =>
    intro p
    unfold ks
    rw [ih, ih, ← List.filter_append]
    congr 1
    rw [show 2 ^ (s + 1) = 2 ^ s + 2 ^ s from by rw [Nat.pow_succ]; omega, List.range_add, List.map_append, List.map_map]
    simp only [kid, Bool.toNat_false, Bool.toNat_true, Nat.add_zero]
    congr 1
    · apply List.map_congr_left
      intro v _
      show 2 * p * 2 ^ s + v = _
      rw [Nat.mul_add, Nat.mul_assoc]; omega
    · apply List.map_congr_left
      intro v _
      show (2 * p + 1) * 2 ^ s + v = p * (2 ^ s + 2 ^ s) + (2 ^ s + v)
      rw [Nat.add_mul, Nat.mul_add, Nat.mul_assoc]; omega
theorem ks_kinds (l : List Nat) (i j d : Nat) : ks l i j d 0 = kinds l i j (2 ^ d) := by
  rw [ks_eq]; unfold kinds
  congr 1
  apply List.ext_getElem
  · simp
  · intro k h1 h2; simp

/-- groups without the empty ones; those that are shared out in two -/
def full (gs : List (List Nat)) : List (List Nat) := gs.filter fun g => !g.isEmpty
def share (s : Nat) (gs : List (List Nat)) : List (List Nat) := gs.flatMap fun g => full [g.filter (fun n => !bit s n), g.filter (bit s)]
def groups (s m : Nat) (l : List Nat) : List (List Nat) := (List.range m).map fun p => grp s p l
theorem full_append (a b : List (List Nat)) : full (a ++ b) = full a ++ full b := List.filter_append ..
theorem flatten_full (gs : List (List Nat)) : (full gs).flatten = gs.flatten := by
  induction gs with
  | nil => rfl
  | cons g gs ih =>
    rw [List.flatten_cons, ← ih]
    unfold full
    rw [List.filter_cons]
    cases g <;> simp
theorem share_nil (s : Nat) : full [([] : List Nat).filter (fun n => !bit s n), ([] : List Nat).filter (bit s)] = [] := rfl
theorem share_full (s : Nat) (gs : List (List Nat)) : share s (full gs) = share s gs := by
  induction gs with
  | nil => rfl
  | cons g gs ih =>
    have e : share s (g :: gs) = full [g.filter (fun n => !bit s n), g.filter (bit s)] ++ share s gs := rfl
    rw [e, ← ih]
    cases g with
    | nil => rw [share_nil]; rfl
    | cons n g => rfl
theorem full_share (s : Nat) (gs : List (List Nat)) : full (share s gs) = share s gs := by
  unfold full share
  rw [List.filter_eq_self]
  intro g hg
  simp only [List.mem_flatMap, full, List.mem_filter] at hg
  obtain ⟨_, _, _, h⟩ := hg
  exact h
theorem share_groups (s m : Nat) (l : List Nat) : share s (groups (s + 1) m l) = full (groups s (2 * m) l) := by
  induction m with
  | zero => rfl
  | succ m ih =>
    have e1 : groups (s + 1) (m + 1) l = groups (s + 1) m l ++ [grp (s + 1) m l] := by unfold groups; rw [List.range_succ, List.map_append]; rfl
    have e2 : groups s (2 * (m + 1)) l = groups s (2 * m) l ++ [grp s (kid m false) l, grp s (kid m true) l] := by
      unfold groups kid
      rw [show 2 * (m + 1) = 2 * m + 1 + 1 from by omega, List.range_succ, List.range_succ, List.map_append, List.map_append, List.append_assoc]; rfl
    rw [e1, e2, full_append, ← ih]
    unfold share
    rw [List.flatMap_append]
    congr 1
    rw [List.flatMap_cons, List.flatMap_nil, List.append_nil, grp_kid, grp_kid]
    congr 3
    · funext n; cases bit s n <;> rfl
    · congr 1; funext n; cases bit s n <;> rfl
theorem flatten_groups (s m : Nat) (l : List Nat) : (groups s m l).flatten = lev s m l := by unfold groups lev; rw [List.flatMap_def]
theorem groups_one (s : Nat) (l : List Nat) (h : ∀ n ∈ l, n < 2 ^ s) : groups s 1 l = [l] := by
  have : grp s 0 l = l := by
    unfold grp; rw [List.filter_eq_self]; intro n hn; simp [Nat.div_eq_of_lt (h n hn)]
  simp [groups, this]

end Wv
end Go.Proofs.Ytgnakccbkglfpaa
