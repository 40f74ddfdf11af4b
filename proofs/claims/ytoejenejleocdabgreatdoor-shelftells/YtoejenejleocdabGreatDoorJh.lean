import Derived.Test.YtoejenejleocdabGreatDoorSh
import Derived.Test.YtoejenejleocdabGreatDoorJb
import Derived.Test.YtoejenejleocdabGreatDoorJc
import Derived.RangeFuncNested
import Derived.RangeFuncBound
import Derived.RangeFuncCalls
import Derived.RangeFuncLeaves
import Derived.RangeFuncBox
import Derived.Shelf.Abstract
import Derived.Shelf.RegionOpen
import Derived.WalkKit
import Derived.OwnWalkIn
import Derived.TacticsInMore
import Derived.LoopNIn
import Derived.LoopIn
import Derived.Lib.Hide
import Derived.Test.YtoejenejleocdabGreatDoorProg
import Derived.Test.YtoejenejleocdabGreatDoorJg
/- Rows of numbers of the call's own: slices.Clone, slices.Sort; a row's own block. -/
namespace Go.Proofs.YtoejenejleocdabGreatDoor
open Go.RowKit Go.Sort

/-- the row, other numbers put into it -/
theorem own_putI {w : World} {base : Nat} {e : TypeId} {g n cap q : Nat} {all d : List Int} {os : Array Obj} (h : w.ownsRow base e 1 (.slice (some ⟨g, 0, none⟩) n cap) n (all.map (Value.int .i64))) (hd : d.length = n) :
    (Sort.grow (Sort.putRow (Value.int .i64) (Sort.ahead w q) g 0 d.toArray) os).ownsRow base e 1 (.slice (some ⟨g, 0, none⟩) n cap) n (d.map (Value.int .i64)) ∧ Below base w (Sort.grow (Sort.putRow (Value.int .i64) (Sort.ahead w q) g 0 d.toArray) os) := by
  rcases h.2 with ⟨hv, _⟩ | ⟨g', cap', cur, hv, hbase, hg, hnc, hcm, hsz, htk⟩
  · cases hv
  · injection hv with e1 e2 e3
    injection e1 with e1
    injection e1 with e1
    subst e1 e3
    have hlt : g < w.heap.size := by
      rcases Nat.lt_or_ge g w.heap.size with h | h
      · exact h
      · rw [Array.getElem?_eq_none h] at hg; cases hg
    have hhp : (Sort.grow (Sort.putRow (Value.int .i64) (Sort.ahead w q) g 0 d.toArray) os).heap[g]? = some (.cells (Sort.putCells (Value.int .i64) 0 d.toArray cur) e (0, 0)) := by
      rw [Sort.heap_grow_old _ _ (by simpa using hlt)]
      simp only [Sort.putRow, Sort.mapBlock, Sort.heap_ahead, Array.getElem?_modify, if_true, hg, Option.map_some]
      rfl
    refine ⟨⟨by simp; omega, .inr ⟨g, cap, _, rfl, hbase, hhp, by omega, hcm, ?_, ?_⟩⟩, ⟨rfl, rfl, rfl, ?_, ?_⟩⟩
    · simp [Sort.putCells]; omega
    · apply List.ext_getElem
      · simp [Sort.putCells]; omega
      · intro i h1 h2
        simp only [List.length_map] at h2
        have hi : i < d.length := by omega
        simp [Sort.putCells, hi]
    · simp
    · intro k hk
      have hkg : ¬ g = k := by omega
      rw [Sort.heap_grow_old _ _ (by simp; omega)]
      simp [Sort.putRow, Sort.mapBlock, Array.getElem?_modify, hkg]
theorem own_holdsI {w : World} {base : Nat} {e : TypeId} {g n cap : Nat} {all : List Int} (h : w.ownsRow base e 1 (.slice (some ⟨g, 0, none⟩) n cap) n (all.map (Value.int .i64))) : Sort.Holds (Value.int .i64) w g 0 all.toArray ∧ g < w.heap.size ∧ n = all.length := by
  obtain ⟨hn, hr⟩ := own_row (0 : Int) h
  have hlt := (h.lt g rfl).2
  refine ⟨fun j hj => ⟨?_, ?_⟩, hlt, hn⟩
  · obtain ⟨b, o, ea, _, hcell⟩ := hr (by rw [hn]; simp at hj; omega)
    injection ea with ea
    injection ea with e1 e2 _
    subst e1 e2
    simp only [List.size_toArray] at hj
    have := hcell j (by omega)
    rw [this]
    simp [hj]
  · have := h.frozenAt j
    rw [Nat.zero_add]
    exact this
theorem sortI_any (all : List Int) (A : Option Addr) (n c base : Nat) (w : World) (h : w.ownsRow base 3 1 (.slice A n c) n (all.map (Value.int .i64))) (hn : n < 4611686018427387904) :
    Calls Tryz.prog 95 #[.slice A n c] w fun e w' => e = .returned (.tuple #[]) ∧ w'.ownsRow base 3 1 (.slice A n c) n ((all.mergeSort fun x y => decide (x ≤ y)).map (Value.int .i64)) ∧ Below base w w' := by
  by_cases h0 : n = 0
  · subst h0
    have : all = [] := by have := h.1; simp at this; exact this
    subst this
    refine (Tryz.slices_Sort_int_none A c w).mono ?_
    rintro e w' ⟨rfl, rfl⟩
    exact ⟨rfl, by simpa using h, Below.refl _ _⟩
  · obtain ⟨g, cap, hv, _, _⟩ := h.form (by omega)
    injection hv with hA _ hc
    subst hA hc
    obtain ⟨hH, hlt, hl⟩ := own_holdsI h
    subst hl
    refine (Tryz.slices_Sort_int g 0 c all w hH hlt hn).mono ?_
    rintro e w' ⟨rfl, q, os, rfl⟩
    exact ⟨rfl, own_putI (q := q) (os := os) h (d := all.mergeSort fun x y => decide (x ≤ y)) (List.length_mergeSort all)⟩
/-- slices.Clone of numbers -/
theorem clone_any (A : Option Addr) (c : Nat) (s : List Int) (w : World) (hr : IRow w w.heap.size A s) (hs : s.length * 8 ≤ 140737488355328) :
    Calls Tryz.prog 94 #[.slice A s.length c] w fun e w' => ∃ v, e = .returned v ∧ w'.ownsRow w.heap.size 3 1 v s.length (s.map (Value.int .i64)) ∧ Below w.heap.size w w' := by
  cases A with
  | none =>
    by_cases h0 : s.length = 0
    · obtain rfl : s = [] := List.eq_nil_of_length_eq_zero h0
      refine (Tryz.slices_Clone_int_nil 0 c w).mono ?_
      rintro e w' ⟨rfl, rfl⟩
      exact ⟨_, rfl, World.ownsRow_nil _ _ _ _, Below.refl _ _⟩
    · obtain ⟨b, o, e, _⟩ := hr (by omega)
      cases e
  | some a =>
    by_cases h0 : s.length = 0
    · obtain rfl : s = [] := List.eq_nil_of_length_eq_zero h0
      refine (Tryz.slices_Clone_int_zero a c w).mono ?_
      rintro e w' ⟨v, rfl, h1, _, h2⟩
      exact ⟨_, rfl, h1, h2⟩
    · obtain ⟨b, o, e, _, hc⟩ := hr (by omega)
      injection e with e
      subst e
      refine (Tryz.slices_Clone_int b o s.length c s w (Nat.le_refl _) hs hc).mono ?_
      rintro e w' ⟨v, rfl, h1, _, h2⟩
      rw [List.take_length] at h1
      exact ⟨_, rfl, h1, h2⟩
theorem sorted_unique : ∀ {x y : List Int}, x.Perm y → x.Pairwise (· ≤ ·) → y.Pairwise (· ≤ ·) → x = y
  | [], y, hp, _, _ => (List.nil_perm.1 hp).symm
  | a :: x, [], hp, _, _ => by have := hp.length_eq; simp at this
  | a :: x, b :: y, hp, h1, h2 => by
    have ha : a ∈ b :: y := hp.subset (by simp)
    have hb : b ∈ a :: x := hp.symm.subset (by simp)
    have h3 := (List.pairwise_cons.1 h1).1
    have h4 := (List.pairwise_cons.1 h2).1
    have e : a = b := by
      rcases List.mem_cons.1 ha with h | h
      · exact h
      · rcases List.mem_cons.1 hb with h' | h'
        · exact h'.symm
        · have := h3 b h'; have := h4 a h; omega
    subst e
    rw [sorted_unique (List.Perm.cons_inv hp) (List.pairwise_cons.1 h1).2 (List.pairwise_cons.1 h2).2]
theorem mergeSort_eq {x y : List Int} (hp : x.Perm y) (hy : y.Pairwise (· ≤ ·)) : (x.mergeSort fun a b => decide (a ≤ b)) = y := by
  refine sorted_unique ((List.mergeSort_perm _ _).trans hp) ?_ hy
  have h := List.pairwise_mergeSort (le := fun a b : Int => decide (a ≤ b)) (fun a b c h1 h2 => by simp only [decide_eq_true_eq] at *; omega) (fun a b => by simp only [Bool.or_eq_true, decide_eq_true_eq]; omega) x
  exact h.imp fun h => by simpa using h
theorem up_sorted {L : List Nat} (h : L.Pairwise (· < ·)) : (up L).Pairwise (· ≤ ·) := by
  unfold up
  rw [List.pairwise_map]
  exact h.imp fun h => by omega
/-- a row of the call's own hangs on its own block alone -/
theorem own_block {w w' : World} {base : Nat} {e : TypeId} {g n cap : Nat} {xs : List Value} (h : w.ownsRow base e 1 (.slice (some ⟨g, 0, none⟩) n cap) n xs) (hb : w'.heap[g]? = w.heap[g]?) : w'.ownsRow base e 1 (.slice (some ⟨g, 0, none⟩) n cap) n xs := by
  refine ⟨h.1, ?_⟩
  rcases h.2 with ⟨hv, _⟩ | ⟨g', cap', cur, hv, h1, hg, r⟩
  · cases hv
  · injection hv with e1 e2 e3
    injection e1 with e1
    injection e1 with e1
    subst e1
    exact .inr ⟨g, cap', cur, by rw [e3], h1, hb.trans hg, r⟩

end Go.Proofs.YtoejenejleocdabGreatDoor

/- slices.Backward of a row of numbers: the iterator's contract. -/
namespace Go.Proofs.YtoejenejleocdabGreatDoor
open Go.RowKit Go.Shelf
attribute [local go_sem] Oper.semAt_some

/-- what has come when k rounds are over: the last one first -/
def bw (z : List Int) (n j : Nat) : Nat × Int := (n - 1 - j, z[n - 1 - j]?.getD 0)
def upto {α : Type} (f : Nat → α) (k : Nat) : List α := (List.range k).map f
theorem upto_succ {α : Type} (f : Nat → α) (k : Nat) : upto f (k + 1) = upto f k ++ [f k] := by simp [upto, List.range_succ]
theorem upto_length {α : Type} (f : Nat → α) (k : Nat) : (upto f k).length = k := by simp [upto]

/-- the cells of blocks below m, and of block B, are as they were -/
def KC (m B : Nat) (W W' : World) : Prop := ∀ p : Addr, p.block < m ∨ p.block = B → W'.cell? p = W.cell? p
theorem KC.t {m B : Nat} {W1 W2 W3 : World} (h : KC m B W1 W2) (k : KC m B W2 W3) : KC m B W1 W3 := fun p hp => (k p hp).trans (h p hp)
theorem cell_of_block {W W' : World} {p : Addr} (h : W'.heap[p.block]? = W.heap[p.block]?) : W'.cell? p = W.cell? p := by
  unfold World.cell?
  rw [h]
theorem KC.b {m B : Nat} {w : World} (hm : m ≤ w.heap.size) (hB : B < w.heap.size) (W : World) (l : Nat) (o o' : Obj) (hl : w.heap.size ≤ l) (_ : W.heap[l]? = some o) (_ : o.isCells = false) (_ : o.isWalk = false) : KC m B W (W.putObj l o') := fun p hp =>
  cell_of_block (World.putObj_heap_other (by omega))
theorem KC.below {m B n : Nat} {W W' : World} (h : Below n W W') (hm : m ≤ n) (hB : B < n) : KC m B W W' := fun p hp => h.cell (p := p) (by omega)
theorem KC.set {m B : Nat} {W W' : World} (h : KC m B W W') (p : Addr) (v : Value) (h1 : m ≤ p.block) (h2 : p.block ≠ B) : KC m B W (W'.setCell p v) := fun q hq =>
  (World.cell?_setCell_far W' p q v (by omega)).trans (h q hq)

set_option maxRecDepth 100000 in
set_option maxHeartbeats 2000000 in
theorem backward1_in (F : Fence) (n : Nat) (h7 : F.fn 157) (hro : F.round = none) (hn : 1 ≤ n) (l Bs m b off len cap : Nat) (z : List Int) (hreach : len ≤ 17592186044416) (hb : b < m) (J Jx : List (Nat × Int) → World → Prop)
    (hY : ∀ pre x W, J pre W → pre.length < len → YieldAt F (n - 1) Tryz.prog l #[.int .i64 (x.1 : Int), .int .i64 x.2] W fun e W' =>
      (e = .returned (.bool true) ∧ J (pre ++ [x]) W' ∧ KC m Bs W W') ∨ (e = .returned (.bool false) ∧ Jx (pre ++ [x]) W'))
    (W : World) (hBs : W.cell? ⟨Bs, 0, none⟩ = some (.slice (some ⟨b, off, none⟩) len cap)) (hc : ∀ j, j < len → W.cell? ⟨b, off + j, none⟩ = some (.int .i64 (z[j]?.getD 0))) (h0 : J [] W) :
    CallsIn F n Tryz.prog 157 #[.func (.yield l) #[] #[], .pointer (some ⟨Bs, 0, none⟩)] W fun e W' => (∃ v, e = .returned v) ∧
      ((∃ ys, ys = upto (bw z len) len ∧ J ys W') ∨ (∃ pre, (∃ k, k ≤ len ∧ pre = upto (bw z len) k) ∧ Jx pre W')) := by
  refine callsIn_of_wp Tryz.func157 rfl h7 ?_ hro
  simp only [Tryz.ntmps157, List.size_toArray, List.length_cons, List.length_nil, Nat.reduceAdd, Nat.reduceSub, Array.replicate_succ, Array.replicate_zero, List.push_toArray, List.append_toArray, List.nil_append, List.cons_append]
  gi_wp2
  gi_loopw [3] (fun i wr => ∃ k : Nat, k ≤ len ∧ i = .int .i64 ((len : Int) - 1 - (k : Int)) ∧ J (upto (bw z len) k) wr ∧ KC m Bs W wr)
    (fun i _ => (intOf i + 1).toNat)
  case atStart => exact ⟨0, Nat.zero_le _, by simp, h0, fun _ _ => rfl⟩
  case round =>
    obtain ⟨k, hk, rfl, hJs, hnx⟩ := hrel
    by_cases hlt : k < len
    · have e1 : (len : Int) - 1 - (k : Int) = ((len - 1 - k : Nat) : Int) := by omega
      have hidx : len - 1 - k < len := by omega
      have HX : Hid (bw z len k = (len - 1 - k, z[len - 1 - k]?.getD 0)) := Lib.hid rfl
      have HE := Lib.hid e1
      rw [e1]
      clear e1
      have hcx : wr.cell? ⟨b, off + (len - 1 - k), none⟩ = some (.int .i64 (z[len - 1 - k]?.getD 0)) := (hnx ⟨b, off + (len - 1 - k), none⟩ (.inl hb)).trans (hc _ hidx)
      have hbx : wr.cell? ⟨Bs, 0, none⟩ = some (.slice (some ⟨b, off, none⟩) len cap) := (hnx ⟨Bs, 0, none⟩ (.inr rfl)).trans hBs
      have hms : Hid (len - 1 - k + k + 1 = len) := Lib.hid (by omega)
      have hNx : Hid (((len - 1 - k : Nat) : Int) - 1 = (len : Int) - 1 - ((k + 1 : Nat) : Int)) := Lib.hid (by omega)
      generalize len - 1 - k = i at *
      obtain ⟨fn, tmps, assign, body, hy, hR⟩ := hY _ (i, z[i]?.getD 0) wr hJs (by rw [upto_length]; exact hlt)
      dsimp only at hy
      gi_wp2
      refine hR.mono ?_
      rintro e W3 (⟨rfl, hJ3, hk3⟩ | ⟨rfl, hJx3⟩)
      · gi_wp2
        go_roundw
        case rel => exact ⟨k + 1, by omega, by rw [← hNx.out], by rw [upto_succ, HX.out]; exact hJ3, hnx.t hk3⟩
        case measure => simp [intOf]
      · gi_wp2
        refine bodyPost_ret (results_none rfl _ _ _) rfl ?_
        exact ⟨⟨_, rfl⟩, .inr ⟨_, ⟨k + 1, by omega, by rw [upto_succ, HX.out]⟩, hJx3⟩⟩
    · obtain rfl : k = len := by omega
      have e1 : (k : Int) - 1 - (k : Int) = -1 := by omega
      rw [e1]
      gi_wp2
      go_end0
      exact ⟨⟨_, rfl⟩, .inl ⟨_, rfl, hJs⟩⟩

set_option maxRecDepth 100000 in
set_option maxHeartbeats 1000000 in
theorem backward1_none (F : Fence) (n : Nat) (h7 : F.fn 157) (hro : F.round = none) (l Bs cap : Nat) (A : Option Addr) (J : List (Nat × Int) → World → Prop) (W : World) (hBs : W.cell? ⟨Bs, 0, none⟩ = some (.slice A 0 cap)) (h0 : J [] W) :
    CallsIn F n Tryz.prog 157 #[.func (.yield l) #[] #[], .pointer (some ⟨Bs, 0, none⟩)] W fun e W' => (∃ v, e = .returned v) ∧ J [] W' := by
  refine callsIn_of_wp Tryz.func157 rfl h7 ?_ hro
  simp only [Tryz.ntmps157, List.size_toArray, List.length_cons, List.length_nil, Nat.reduceAdd, Nat.reduceSub, Array.replicate_succ, Array.replicate_zero, List.push_toArray, List.append_toArray, List.nil_append, List.cons_append]
  gi_wp2
  gi_loopw [3] (fun i wr => i = .int .i64 (-1) ∧ J [] wr) (fun _ _ => 0)
  case atStart => exact ⟨rfl, h0⟩
  case round =>
    obtain ⟨rfl, hJs⟩ := hrel
    gi_wp2
    go_end0
    exact ⟨⟨_, rfl⟩, hJs⟩

set_option maxHeartbeats 1000000 in
theorem backward_in (F : Fence) (n : Nat) (h5 : F.fn 122) (hro : F.round = none) (a : Option Addr) (len cap : Nat) (w : World) :
    CallsIn F n Tryz.prog 122 #[.slice a len cap] w fun e w' => e = .returned (.func (.func 157) #[] #[.pointer (some ⟨w.heap.size, 0, none⟩)]) ∧ w' = w.alloc (.cells #[.slice a len cap] 22) := by
  refine callsIn_of_wp Tryz.func122 rfl h5 ?_ hro
  simp only [Tryz.ntmps122, List.size_toArray, List.length_cons, List.length_nil, Nat.reduceAdd, Nat.reduceSub, Array.replicate_succ, Array.replicate_zero, List.push_toArray, List.append_toArray, List.nil_append, List.cons_append]
  gi_wp2
  go_ret
  exact ⟨rfl, rfl⟩

/-- slices.Backward(s): all of z, the last one first; or as many of them as a loop has asked for -/
theorem backward_stops (F : Fence) (n : Nat) (h7 : F.fn 157) (hro : F.round = none) (hn : 1 ≤ n) (Bs m : Nat) (A : Option Addr) (cap : Nat) (z : List Int) (hreach : z.length ≤ 17592186044416) (w : World) (hBs : Bs < w.heap.size) (hm : m ≤ w.heap.size)
    (hc : w.cell? ⟨Bs, 0, none⟩ = some (.slice A z.length cap)) (hI : IRow w m A z) :
    SeqStopsK F n Tryz.prog 157 #[.pointer (some ⟨Bs, 0, none⟩)] (fun x : Nat × Int => #[Value.int .i64 (x.1 : Int), Value.int .i64 x.2]) (KC m Bs) (fun ys => ys = upto (bw z z.length) z.length)
      (fun pre => ∃ k, k ≤ z.length ∧ pre = upto (bw z z.length) k) z.length w := fun l J Jx W hW _ _ hY h0 => by
  have hc' := (hW.cell (p := ⟨Bs, 0, none⟩) hBs).trans hc
  by_cases hz : z.length = 0
  · obtain rfl : z = [] := List.eq_nil_of_length_eq_zero hz
    exact (backward1_none F n h7 hro l Bs cap A J W hc' h0).mono fun e W' ⟨he, hj⟩ => ⟨he, .inl ⟨_, rfl, hj⟩⟩
  · obtain ⟨b, o, rfl, hb, hcs⟩ := (hI.below (hW.mono hm)) (by omega)
    exact backward1_in F n h7 hro hn l Bs m b o z.length cap z hreach hb J Jx hY W hc' (fun j hj => by rw [hcs j hj]; simp) h0

end Go.Proofs.YtoejenejleocdabGreatDoor

/- hasLastWithin: is Last elsewhere than at the end of signs? -/
namespace Go.Proofs.YtoejenejleocdabGreatDoor
open Go.RowKit

/-- Last stands elsewhere than at the end -/
def lastIn (s : List Int) : Bool := (s.take (s.length - 1)).contains 0
theorem lastIn_iff (s : List Int) : lastIn s = true ↔ 0 ∈ s.dropLast := by
  unfold lastIn
  rw [List.dropLast_eq_take]
  simp

set_option maxHeartbeats 400000 in
theorem hasLast_any (A : Option Addr) (c : Nat) (s : List Int) (w : World) (hr : IRow w w.heap.size A s) (hcap : s.length ≤ c) (hs : s.length ≤ 17592186044416) :
    Calls Tryz.prog 120 #[.slice A s.length c] w fun e w' => e = .returned (.bool (lastIn s)) ∧ w = w' := by
  by_cases h0 : s.length = 0
  · have HH : Hid (lastIn s = false) := Lib.hid (by unfold lastIn; rw [h0]; simp)
    clear hr
    generalize s.length = n at *
    subst h0
    go_enter Tryz.func120, Tryz.ntmps120
    go_wp2
    go_ret
    exact ⟨by rw [HH.out]; rfl, rfl⟩
  · obtain ⟨b, o, rfl, _, hc⟩ := hr (by omega)
    have HC := Lib.hid (Tryz.slices_Contains_int b o (s.length - 1) c s 0 w (by omega) (by omega) hc)
    have HH : Hid ((s.take (s.length - 1)).contains 0 = lastIn s) := Lib.hid rfl
    rw [HH.out] at HC
    clear hc HH
    generalize lastIn s = r at *
    obtain ⟨m, hm⟩ : ∃ m, s.length = m + 1 := ⟨s.length - 1, by omega⟩
    rw [hm] at HC hcap hs ⊢
    clear hm h0
    rw [Nat.add_sub_cancel] at HC
    go_enter Tryz.func120, Tryz.ntmps120
    go_wp2_with fail
    with_reducible refine HC.out.mono ?_
    rintro e w' ⟨rfl, rfl⟩
    go_wp2
    go_ret
    exact ⟨rfl, rfl⟩

end Go.Proofs.YtoejenejleocdabGreatDoor

/- Find: the ends that begin with signs. -/
namespace Go.Proofs.YtoejenejleocdabGreatDoor
open Go.RowKit Go.Shelf
attribute [local irreducible] Bt.pop Bt.popF

/-- sign by sign, the last one first -/
def stg (l : List Int) (pre : List (Nat × Int)) : Nat × Nat := pre.foldl (fun p x => En.lgr l p.1 p.2 x.2) (0, l.length)
theorem stg_nil (l : List Int) : stg l [] = (0, l.length) := rfl
theorem stg_snoc (l : List Int) (pre : List (Nat × Int)) (x : Nat × Int) : stg l (pre ++ [x]) = En.lgr l (stg l pre).1 (stg l pre).2 x.2 := by simp [stg]
theorem lgr_le (l : List Int) (f t : Nat) (x : Int) : (En.lgr l f t x).1 ≤ 2 * l.length ∧ (En.lgr l f t x).2 ≤ 2 * l.length := by
  unfold En.lgr
  have h1 := En.lessN_le l x
  have h2 := En.cnt_le l x.toNat f
  have h3 := En.cnt_le l x.toNat t
  split <;> simp <;> omega
theorem stg_le (l : List Int) (pre : List (Nat × Int)) : (stg l pre).1 ≤ 2 * l.length ∧ (stg l pre).2 ≤ 2 * l.length := by
  rcases List.eq_nil_or_concat pre with rfl | ⟨q, x, rfl⟩
  · rw [stg_nil]; simp; omega
  · rw [List.concat_eq_append, stg_snoc]; exact lgr_le _ _ _ _
theorem stg_spn {l : List Int} (h : En.Sg l) (s : List Int) (hs : lastIn s = false) : ∀ k, k ≤ s.length → stg l (upto (bw s s.length) k) = En.spn l (s.drop (s.length - k))
  | 0, _ => by
    rw [Nat.sub_zero, List.drop_length, En.spn_nil h.pos]; rfl
  | k + 1, hk => by
    have ih := stg_spn h s hs k (by omega)
    rw [upto_succ, stg_snoc, ih]
    have hi : s.length - (k + 1) < s.length := by omega
    have e : s.drop (s.length - (k + 1)) = s[s.length - (k + 1)] :: s.drop (s.length - k) := by
      rw [List.drop_eq_getElem_cons hi, show s.length - (k + 1) + 1 = s.length - k from by omega]
    have e2 : (bw s s.length k).2 = s[s.length - (k + 1)] := by
      unfold bw
      simp only [show s.length - 1 - k = s.length - (k + 1) from by omega]
      simp [hi]
    rw [e, e2]
    apply En.lgr_spn h
    intro h0
    left
    by_cases hk0 : k = 0
    · subst hk0; simp
    · exfalso
      have : 0 ∈ s.dropLast := by
        rw [List.dropLast_eq_take, List.mem_take_iff_getElem]
        exact ⟨s.length - (k + 1), by omega, h0⟩
      rw [(lastIn_iff s).2 this] at hs
      cases hs
theorem stg_end {l : List Int} (h : En.Sg l) (s : List Int) (hs : lastIn s = false) : stg l (upto (bw s s.length) s.length) = En.spn l s := by
  rw [stg_spn h s hs s.length (Nat.le_refl _)]; simp
theorem stg_stop {l : List Int} (h : En.Sg l) (s : List Int) (hs : lastIn s = false) (k : Nat) (hk : k ≤ s.length) (h0 : stg l (upto (bw s s.length) k) = (0, 0)) : En.spn l s = (0, 0) := by
  rw [stg_spn h s hs k hk] at h0
  have := En.spn_app_none h0 h.pos (s.take (s.length - k))
  rwa [List.take_append_drop] at this

set_option maxHeartbeats 1000000 in
theorem find_last (E L S A : Option Addr) (cE cL cS N M c : Nat) (l s : List Int) (w : World) (h : Cmb w E L S l) (hr : IRow w w.heap.size A s) (hcap : s.length ≤ c) (hs : s.length ≤ 17592186044416) (hl : lastIn s = true) :
    Calls Tryz.prog 90 #[.agg #[.slice E N cE, .int .i64 N, .int .i64 10, .slice L 10 cL, .slice S M cS], .slice A s.length c] w (SpanIs w (En.spn l s)) := by
  rw [En.spn_within h.sg s ((lastIn_iff s).1 hl)]
  have hb : Below w.heap.size w ((w.alloc (.cells #[.slice E N cE, .int .i64 N, .int .i64 10, .slice L 10 cL, .slice S M cS] 33)).alloc (.cells #[.int .i64 0, .int .i64 0] 115)) := ((Below.refl _ _).alloc (Nat.le_refl _) _).alloc (by simp) _
  have HL := Lib.hid (hasLast_any A c s _ (hr.on hb) hcap hs)
  rw [hl] at HL
  clear h hr hl
  generalize s.length = n at *
  go_enter Tryz.func90, Tryz.ntmps90
  go_wp2_with fail
  with_reducible refine HL.out.mono ?_
  rintro e w' ⟨rfl, rfl⟩
  clear HL
  go_wp2
  exact bodyPost_ret (v := .agg #[.int .i64 0, .int .i64 0]) (by simp [results, Tryz.results90, go_sem]) rfl ⟨rfl, hb⟩

end Go.Proofs.YtoejenejleocdabGreatDoor

/- Find: the ends that begin with signs: the walk over slices.Backward. -/
namespace Go.Proofs.YtoejenejleocdabGreatDoor
open Go.RowKit Go.Shelf
attribute [local irreducible] Bt.pop Bt.popF
attribute [local go_sem] Oper.semAt_some

/-- the span so far, in a block of its own -/
structure SpI (w1 : World) (f t : Nat) (W : World) : Prop where
  row : W.rowIs w1.heap.size 115 2 (spF f t)
  old : Below w1.heap.size w1 W
  big : w1.heap.size + 2 ≤ W.heap.size
theorem SpI.on {w1 : World} {f t : Nat} {W W' : World} (h : SpI w1 f t W) (hb : Below W.heap.size W W') : SpI w1 f t W' := ⟨h.row.of_block (hb.block _ h.row.lt), h.old.trans (hb.mono h.old.size), Nat.le_trans h.big hb.size⟩
theorem SpI.c0 {w1 : World} {f t : Nat} {W : World} (h : SpI w1 f t W) : W.cell? ⟨w1.heap.size, 0, none⟩ = some (.int .i64 f) := h.row.cell (i := 0) (by omega)
theorem SpI.c1 {w1 : World} {f t : Nat} {W : World} (h : SpI w1 f t W) : W.cell? ⟨w1.heap.size, 1, none⟩ = some (.int .i64 t) := h.row.cell (i := 1) (by omega)
theorem SpI.own {w1 : World} {f t : Nat} {W W' : World} {row : Option Nat} (h : SpI w1 f t W) (hg : W.grownBy W' row) (hr : ∀ r, row = some r → ∃ o : Obj, W.heap[r]? = some o ∧ o.isCells = false) (hw : ∀ r, row = some r → w1.heap.size ≤ r) : SpI w1 f t W' := by
  obtain ⟨c, hc, _⟩ := h.row
  exact ⟨h.row.of_block (grownBy_keeps_cells hg hr hc rfl), h.old.grown hg h.old.size hw, Nat.le_trans h.big hg.size⟩
theorem SpI.set {w1 : World} {f t : Nat} {W : World} (h : SpI w1 f t W) (a b : Nat) : SpI w1 a b ((W.setCell ⟨w1.heap.size, 0, none⟩ (.int .i64 a)).setCell ⟨w1.heap.size, 1, none⟩ (.int .i64 b)) :=
  ⟨((h.row.set 0 _).set 1 _).congr (fun i hi => by
    match i, hi with
    | 0, _ => rfl
    | 1, _ => rfl), (h.old.setCell (Nat.le_refl _) _).setCell (Nat.le_refl _) _, by simpa using h.big⟩
theorem KeepsOthers.of_below {W W' : World} (h : Below W.heap.size W W') : KeepsOthers W W' := ⟨h.size, fun k _ hk _ => (h.block k (Array.getElem?_eq_some_iff.1 hk).1).trans hk⟩
set_option maxRecDepth 100000 in
set_option maxHeartbeats 2000000 in
theorem find_loop (E L S A : Option Addr) (cE cL cS N M c : Nat) (l s : List Int) (w : World) (h : Cmb w E L S l) (hN : N = l.length) (hM : M = En.most l + 2) (hE : N ≤ cE) (hL : 10 ≤ cL) (hr : IRow w w.heap.size A s) (hcap : s.length ≤ c) (hs : s.length ≤ 17592186044416) (hl : lastIn s = false) :
    Calls Tryz.prog 90 #[.agg #[.slice E N cE, .int .i64 N, .int .i64 10, .slice L 10 cL, .slice S M cS], .slice A s.length c] w (SpanIs w (En.spn l s)) := by
  have hb : Below w.heap.size w ((w.alloc (.cells #[.slice E N cE, .int .i64 N, .int .i64 10, .slice L 10 cL, .slice S M cS] 33)).alloc (.cells #[.int .i64 0, .int .i64 0] 115)) := ((Below.refl _ _).alloc (Nat.le_refl _) _).alloc (by simp) _
  have HL := Lib.hid (hasLast_any A c s _ (hr.on hb) hcap hs)
  rw [hl] at HL
  have HW := Lib.hid (fun W => combWhole_any E L S N cE N 10 10 cL M cS W)
  have HLE := Lib.hid hl
  have HN := Lib.hid hN
  have HM := Lib.hid hM
  have hNl : N ≤ 4096 := by have := h.small; omega
  clear hl hN hM
  refine (callsIn_wide (n := 3)).1 ?_
  refine callsIn_of_wp_marks Tryz.func90 rfl trivial ?_ rfl
  simp only [Tryz.ntmps90, List.size_toArray, List.length_cons, List.length_nil, Nat.reduceAdd, Nat.reduceSub, Array.replicate_succ, Array.replicate_zero, List.push_toArray, List.append_toArray, List.nil_append, List.cons_append]
  gi_wp2_with (first
    | (refine ⟨trivial, ?_⟩; gi_at_call 120; refine (callsIn_wide.2 HL.out).mono ?_; rintro e w' ⟨rfl, rfl⟩)
    | (refine ⟨trivial, ?_⟩; gi_at_call 121; refine (callsIn_wide.2 (HW.out _)).mono ?_; rintro e w1 ⟨rfl, hb1⟩)
    | (refine ⟨trivial, ?_⟩; gi_at_call 122; refine (backward_in Fence.wide _ trivial rfl _ _ _ _).mono ?_; rintro e w' ⟨rfl, rfl⟩))
  clear HL HW
  obtain ⟨V0, hV0⟩ : ∃ V0, V0 = (w.alloc (.cells #[.slice E N cE, .int .i64 N, .int .i64 10, .slice L 10 cL, .slice S M cS] 33)).alloc (.cells #[.int .i64 0, .int .i64 0] 115) := ⟨_, rfl⟩
  have hcb : CB w w.heap.size E L S cE cL cS N M l V0 := by
    rw [hV0]
    exact (CB.start h HN.out HM.out hE hL (Below.refl _ _) 33).on ((Below.refl _ _).alloc (Nat.le_refl _) _)
  have hres : V0.rowIs (w.heap.size + 1) 115 2 (spF 0 0) := by
    have := spF_alloc (w.alloc (.cells #[.slice E N cE, .int .i64 N, .int .i64 10, .slice L 10 cL, .slice S M cS] 33)) 0 0 115
    rw [World.size_alloc] at this
    rw [hV0]
    exact this
  rw [← hV0] at hb hb1
  have hcb1 := hcb.on hb1
  have hres1 := hres.of_block (hb1.block _ hres.lt)
  have hlt1 := hcb1.lt
  have hlt2 := hres1.lt
  have hrow : IRow w1 w1.heap.size A s := hr.on hcb1.old
  have HLg : Hid (∀ (W : World) (f t : Nat) (x : Int), Below w1.heap.size w1 W → f ≤ 9223372036854775807 → t ≤ 9223372036854775807 → Calls Tryz.prog 123 #[.agg #[.slice E N cE, .int .i64 N, .int .i64 10, .slice L 10 cL, .slice S M cS], .agg #[.int .i64 f, .int .i64 t], .int .i64 x] W (SpanIs W (En.lgr l f t x))) :=
    Lib.hid fun W f t x hW hf ht => longer_span E L S cE cL cS N M f t l x W (hcb1.on hW).cmb HN.out HM.out hE hL hf ht
  have HEnd := Lib.hid (stg_end h.sg s HLE.out)
  have HStop := Lib.hid (stg_stop h.sg s HLE.out)
  have HC : Hid (∀ W, Below w1.heap.size w1 W → CB w w.heap.size E L S cE cL cS N M l W) := Lib.hid fun W hW => hcb1.on hW
  have HRs : Hid (∀ W, Below w1.heap.size w1 W → W.rowIs (w.heap.size + 1) 115 2 (spF 0 0)) := Lib.hid fun W hW => hres1.of_block (hW.block _ hres1.lt)
  have hst0 : Hid (stg l [] = (0, N)) := Lib.hid (by rw [stg_nil, ← HN.out])
  have hln : Hid (l.length ≤ 4096) := Lib.hid h.small
  have hold := Lib.hid hcb1.old
  obtain ⟨V, hV⟩ : ∃ V, V = (w1.alloc (.cells #[.int .i64 0, .int .i64 N] 115)).alloc (.cells #[.slice A s.length c] 22) := ⟨_, rfl⟩
  have hbV : Below w1.heap.size w1 V := by rw [hV]; exact ((Below.refl _ _).alloc (Nat.le_refl _) _).alloc (by simp) _
  have hszV : V.heap.size = w1.heap.size + 2 := by rw [hV]; simp
  have hsV : V.rowIs w1.heap.size 115 2 (spF 0 N) := by
    have h1 := spF_alloc w1 0 N 115
    rw [hV]
    exact h1.of_block (((Below.refl _ _).alloc (Nat.le_refl _) _).block _ h1.lt)
  have hxV : V.cell? ⟨w1.heap.size + 1, 0, none⟩ = some (.slice A s.length c) := by rw [hV]; simp
  rw [← hV]
  clear hV hV0 hcb hres hb hb1 h hr HLE HN HM
  have hrV : IRow V w1.heap.size A s := hrow.below hbV
  refine wpIn_rangeFunc_ownG rfl (by omega) (gf := 157) (lb := #[.pointer (some ⟨w1.heap.size + 1, 0, none⟩)]) rfl trivial (enters_of Tryz.func157 (by kernel_rfl) rfl)
    (backward_stops Fence.wide _ trivial rfl (by omega) (w1.heap.size + 1) w1.heap.size A c s hs V (by omega) (by omega) hxV hrV) KC.t (KC.b (by omega) (by omega)) (Below.refl _ _) (fun _ => rfl)
    (fun pre W => SpI w1 (stg l pre).1 (stg l pre).2 W) (fun cd pre W => cd = .exit 0 ∧ stg l pre = (0, 0) ∧ SpI w1 0 0 W)
    (fun pre X Y row hh hg hrw => hh.own hg (fun r e => (hrw r e).2) (fun r e => by have := (hrw r e).1; omega)) (fun cd pre X Y row hh hg hrw => ⟨hh.1, hh.2.1, hh.2.2.own hg (fun r e => (hrw r e).2) (fun r e => by have := (hrw r e).1; omega)⟩)
    (by show SpI w1 (stg l []).1 (stg l []).2 V; rw [hst0.out]; exact ⟨hsV, hbV, by omega⟩)
    (fun x => { tmps := #[.agg #[.slice E N cE, .int .i64 N, .int .i64 10, .slice L 10 cL, .slice S M cS], .slice A s.length c, .pointer (some ⟨w.heap.size, 0, none⟩), undef, .pointer (some ⟨w.heap.size + 1, 0, none⟩), .pointer (some ⟨w1.heap.size, 0, none⟩), undef, .int .i64 x.2, .slice A s.length c, .bool false, undef, .agg #[.slice E N cE, .int .i64 N, .int .i64 10, .slice L 10 cL, .slice S M cS], .agg #[.int .i64 0, .int .i64 N], .slice A s.length c, .func (.func 157) #[] #[.pointer (some ⟨w1.heap.size + 1, 0, none⟩)], .int .i64 (x.1 : Int), .int .i64 x.2, undef, undef, undef, undef, undef, undef, undef, undef], defers := [] }) ?assign ?body ?done ?stop
  case assign =>
    intro l x W K hK
    gi_wp2
    exact hK
  case body =>
    rintro r pre x W hF _
    have hbd := stg_le l pre
    have hbl := hln.out
    have HSn := Lib.hid (stg_snoc l pre x)
    generalize stg l pre = p at *
    obtain ⟨f, t⟩ := p
    obtain ⟨i, y⟩ := x
    dsimp only at *
    have HG := Lib.hid (HLg.out W f t y hF.old (by omega) (by omega))
    generalize En.lgr l f t y = q at *
    clear hbd hbl hln HLg HEnd HStop hst0
    obtain ⟨a, b⟩ := q
    have k0 := hF.row.cell (i := 0) (by omega)
    have k1 := hF.row.cell (i := 1) (by omega)
    have j0 : W.cell? ⟨w1.heap.size, 0, none⟩ = some (.int .i64 f) := k0
    have j1 : W.cell? ⟨w1.heap.size, 1, none⟩ = some (.int .i64 t) := k1
    have J := HC.out W hF.old
    have c0 := J.c0
    have c1 := J.c1
    have c2 := J.c2
    have c3 := J.c3
    have c4 := J.c4
    clear k0 k1 J HC HRs
    by_cases ha : a = 0
    · subst ha
      by_cases hb : b = 0
      · subst hb
        gi_wp2_with (refine ⟨trivial, ?_⟩; gi_at_call 123; refine (CallsIn.inRound r (callsIn_wide.2 HG.out)).mono ?_; rintro e W2 ⟨rfl, hb2⟩; have d0 := (hF.on hb2).c0; have d1 := (hF.on hb2).c1; have g0 := (hF.on hb2).row.frozen 0; have g1 := (hF.on hb2).row.frozen 1)
        exact ⟨((KeepsOthers.of_below hb2).trans ((KeepsOthers.setCell _ _ _).trans (KeepsOthers.setCell _ _ _))).from _, rfl, by rw [HSn.out], (hF.on hb2).set 0 0⟩
      · have hz : ((b : Int) == 0) = false := by simp; omega
        gi_wp2_with (refine ⟨trivial, ?_⟩; gi_at_call 123; refine (CallsIn.inRound r (callsIn_wide.2 HG.out)).mono ?_; rintro e W2 ⟨rfl, hb2⟩; have d0 := (hF.on hb2).c0; have d1 := (hF.on hb2).c1; have g0 := (hF.on hb2).row.frozen 0; have g1 := (hF.on hb2).row.frozen 1)
        exact ⟨((KeepsOthers.of_below hb2).trans ((KeepsOthers.setCell _ _ _).trans (KeepsOthers.setCell _ _ _))).from _, ((KC.below hb2 hF.old.size (by have := hF.big; omega)).set ⟨w1.heap.size, 0, none⟩ _ (Nat.le_refl _) (by show w1.heap.size ≠ w1.heap.size + 1; omega)).set ⟨w1.heap.size, 1, none⟩ _ (Nat.le_refl _) (by show w1.heap.size ≠ w1.heap.size + 1; omega), by show SpI w1 (stg l (pre ++ [(i, y)])).1 (stg l (pre ++ [(i, y)])).2 _; rw [HSn.out]; exact (hF.on hb2).set 0 b⟩
    · have hz : ((a : Int) == 0) = false := by simp; omega
      gi_wp2_with (refine ⟨trivial, ?_⟩; gi_at_call 123; refine (CallsIn.inRound r (callsIn_wide.2 HG.out)).mono ?_; rintro e W2 ⟨rfl, hb2⟩; have d0 := (hF.on hb2).c0; have d1 := (hF.on hb2).c1; have g0 := (hF.on hb2).row.frozen 0; have g1 := (hF.on hb2).row.frozen 1)
      exact ⟨((KeepsOthers.of_below hb2).trans ((KeepsOthers.setCell _ _ _).trans (KeepsOthers.setCell _ _ _))).from _, ((KC.below hb2 hF.old.size (by have := hF.big; omega)).set ⟨w1.heap.size, 0, none⟩ _ (Nat.le_refl _) (by show w1.heap.size ≠ w1.heap.size + 1; omega)).set ⟨w1.heap.size, 1, none⟩ _ (Nat.le_refl _) (by show w1.heap.size ≠ w1.heap.size + 1; omega), by show SpI w1 (stg l (pre ++ [(i, y)])).1 (stg l (pre ++ [(i, y)])).2 _; rw [HSn.out]; exact (hF.on hb2).set a b⟩
  case done =>
    rintro D ys Wd hD rfl hF hK
    rw [HEnd.out] at hF
    have HOld := Lib.hid (hold.out.trans (hF.old.mono hold.out.size))
    have hR := HRs.out Wd hF.old
    clear HEnd HStop HLg HC HRs hst0 hln hrV hrow hsV hbV hxV
    generalize En.spn l s = q at *
    obtain ⟨a, b⟩ := q
    have d0 := hF.c0
    have d1 := hF.c1
    have r0 : Wd.cell? ⟨w.heap.size + 1, 0, none⟩ = some (.int .i64 0) := hR.cell (i := 0) (by omega)
    have r1 : Wd.cell? ⟨w.heap.size + 1, 1, none⟩ = some (.int .i64 0) := hR.cell (i := 1) (by omega)
    have g0 := hR.frozen 0
    have g1 := hR.frozen 1
    dsimp only at d0 d1
    gi_wp2
    have hK2 := ((KeepsOthers.setCell Wd ⟨w.heap.size + 1, 0, none⟩ (.int .i64 a)).trans (KeepsOthers.setCell _ ⟨w.heap.size + 1, 1, none⟩ (.int .i64 b))).same D _ hK rfl
    refine ⟨by simp, .inl ⟨_, _, rfl, run_takeDeferred hK2, ?_⟩⟩
    have s2 := set2 hR (.int .i64 a) (.int .i64 b)
    have c5 := cell_kept s2.1 (grownBy_putObj' _ D (.deferred none)) (fun r e => by cases e; exact ⟨_, hK2, rfl⟩)
    have c6 := cell_kept s2.2 (grownBy_putObj' _ D (.deferred none)) (fun r e => by cases e; exact ⟨_, hK2, rfl⟩)
    refine ⟨.agg #[.int .i64 a, .int .i64 b], ?_, rfl, ?_⟩
    · simp [results, Tryz.f90, go_sem, c5, c6]
    · exact ((HOld.out.setCell (by show w.heap.size ≤ w.heap.size + 1; omega) _).setCell (by show w.heap.size ≤ w.heap.size + 1; omega) _).trans (belowK_b (w := w) (Nat.le_refl _) _ D _ _ (by omega) hK2 rfl rfl)
  case stop =>
    rintro D cd pre Wd hD ⟨k, hk, rfl⟩ ⟨rfl, h0, hF⟩ hK
    have HE := Lib.hid (HStop.out k hk h0)
    have HOld := Lib.hid (hold.out.trans (hF.old.mono hold.out.size))
    have hR := HRs.out Wd hF.old
    clear HEnd HStop HLg HC HRs hst0 hln hrV hrow hsV hbV hxV h0
    have d0 := hF.c0
    have d1 := hF.c1
    have r0 : Wd.cell? ⟨w.heap.size + 1, 0, none⟩ = some (.int .i64 0) := hR.cell (i := 0) (by omega)
    have r1 : Wd.cell? ⟨w.heap.size + 1, 1, none⟩ = some (.int .i64 0) := hR.cell (i := 1) (by omega)
    have g0 := hR.frozen 0
    have g1 := hR.frozen 1
    gi_wp2
    have hK2 := ((KeepsOthers.setCell Wd ⟨w.heap.size + 1, 0, none⟩ (.int .i64 0)).trans (KeepsOthers.setCell _ ⟨w.heap.size + 1, 1, none⟩ (.int .i64 0))).same D _ hK rfl
    refine ⟨by simp, .inl ⟨_, _, rfl, run_takeDeferred hK2, ?_⟩⟩
    have s2 := set2 hR (.int .i64 0) (.int .i64 0)
    have c5 := cell_kept s2.1 (grownBy_putObj' _ D (.deferred none)) (fun r e => by cases e; exact ⟨_, hK2, rfl⟩)
    have c6 := cell_kept s2.2 (grownBy_putObj' _ D (.deferred none)) (fun r e => by cases e; exact ⟨_, hK2, rfl⟩)
    refine ⟨.agg #[.int .i64 0, .int .i64 0], ?_, by rw [HE.out]; rfl, ?_⟩
    · simp [results, Tryz.f90, go_sem, c5, c6]
    · exact ((HOld.out.setCell (by show w.heap.size ≤ w.heap.size + 1; omega) _).setCell (by show w.heap.size ≤ w.heap.size + 1; omega) _).trans (belowK_b (w := w) (Nat.le_refl _) _ D _ _ (by omega) hK2 rfl rfl)

/-- FIND: the span of the ends that begin with signs -/
theorem find_any (E L S A : Option Addr) (cE cL cS N M c : Nat) (l s : List Int) (w : World) (h : Cmb w E L S l) (hN : N = l.length) (hM : M = En.most l + 2) (hE : N ≤ cE) (hL : 10 ≤ cL) (hr : IRow w w.heap.size A s) (hcap : s.length ≤ c) (hs : s.length ≤ 17592186044416) :
    Calls Tryz.prog 90 #[.agg #[.slice E N cE, .int .i64 N, .int .i64 10, .slice L 10 cL, .slice S M cS], .slice A s.length c] w (SpanIs w (En.spn l s)) := by
  cases hl : lastIn s
  · exact find_loop E L S A cE cL cS N M c l s w h hN hM hE hL hr hcap hs hl
  · exact find_last E L S A cE cL cS N M c l s w h hr hcap hs hl

end Go.Proofs.YtoejenejleocdabGreatDoor

/- Count: how often signs stand in the list; Befores: the unlike numbers ahead of them. -/
namespace Go.Proofs.YtoejenejleocdabGreatDoor
open Go.RowKit
attribute [local irreducible] Bt.pop Bt.popF

section
variable {w0 : World} {B : Nat} {E L S : Option Addr} {cE cL cS N M : Nat} {l : List Int} {W : World}
theorem CB.find (h : CB w0 B E L S cE cL cS N M l W) (A : Option Addr) (c : Nat) (s : List Int) (hr : IRow W W.heap.size A s) (hcap : s.length ≤ c) (hs : s.length ≤ 17592186044416) :
    Calls Tryz.prog 90 #[.agg #[.slice E N cE, .int .i64 N, .int .i64 10, .slice L 10 cL, .slice S M cS], .slice A s.length c] W (SpanIs W (En.spn l s)) :=
  find_any E L S A cE cL cS N M c l s W h.cmb h.len h.num h.capE h.capL hr hcap hs
end

set_option maxHeartbeats 1000000 in
theorem count_any (E L S A : Option Addr) (cE cL cS N M c : Nat) (l s : List Int) (w : World) (h : Cmb w E L S l) (hN : N = l.length) (hM : M = En.most l + 2) (hE : N ≤ cE) (hL : 10 ≤ cL) (hr : IRow w w.heap.size A s) (hcap : s.length ≤ c) (hs : s.length ≤ 17592186044416) :
    Calls Tryz.prog 53 #[.agg #[.slice E N cE, .int .i64 N, .int .i64 10, .slice L 10 cL, .slice S M cS], .slice A s.length c] w fun e w' => e = .returned (.int .i64 ((En.plc l s).length : Nat)) ∧ Below w.heap.size w w' := by
  have hb := (Below.refl _ w).alloc (Nat.le_refl _) (.cells #[.slice E N cE, .int .i64 N, .int .i64 10, .slice L 10 cL, .slice S M cS] 33)
  have J : CB w w.heap.size E L S cE cL cS N M l _ := CB.start h hN hM hE hL (Below.refl _ _) 33
  have HF := Lib.hid (J.find A c s (hr.on hb) hcap hs)
  have hp := En.spn_le l s
  have hsm := h.small
  have HP := Lib.hid (En.plc_len l s)
  clear h hN hM hr J
  generalize En.spn l s = p at *
  obtain ⟨a, b⟩ := p
  generalize (En.plc l s).length = m at *
  generalize s.length = n at *
  dsimp only at *
  go_enter Tryz.func53, Tryz.ntmps53
  go_wp2_with fail
  with_reducible refine HF.out.mono ?_
  rintro e w1 ⟨rfl, hb1⟩
  have hb2 := hb.trans (hb1.mono hb.size)
  clear HF hb hb1
  dsimp only
  go_wp2
  go_ret
  exact ⟨ret_int (by rw [HP.out]; omega), hb2.alloc hb2.size _⟩

set_option maxHeartbeats 1000000 in
theorem befores_any (E L S A : Option Addr) (cE cL cS N M c : Nat) (l s : List Int) (w : World) (h : Cmb w E L S l) (hN : N = l.length) (hM : M = En.most l + 2) (hE : N ≤ cE) (hL : 10 ≤ cL) (hr : IRow w w.heap.size A s) (hcap : s.length ≤ c) (hs : s.length ≤ 17592186044416) :
    Calls Tryz.prog 144 #[.agg #[.slice E N cE, .int .i64 N, .int .i64 10, .slice L 10 cL, .slice S M cS], .slice A s.length c] w (Ints w (up (En.bfr l s))) := by
  have hb := (Below.refl _ w).alloc (Nat.le_refl _) (.cells #[.slice E N cE, .int .i64 N, .int .i64 10, .slice L 10 cL, .slice S M cS] 33)
  have J : CB w w.heap.size E L S cE cL cS N M l _ := CB.start h hN hM hE hL (Below.refl _ _) 33
  have HF := Lib.hid (J.find A c s (hr.on hb) hcap hs)
  have HK := Lib.hid (fun W (hW : CB w w.heap.size E L S cE cL cS N M l W) => (hW.kinds s).mono (R' := fun e w' => Ints w (up (En.bfr l s)) e w') fun e w' ⟨X, cx, h1, h2, h3⟩ => ⟨X, cx, h1, h2, hW.old.trans (h3.mono hW.old.size)⟩)
  have HJ : Hid (∀ W, Below (w.alloc (.cells #[.slice E N cE, .int .i64 N, .int .i64 10, .slice L 10 cL, .slice S M cS] 33)).heap.size (w.alloc (.cells #[.slice E N cE, .int .i64 N, .int .i64 10, .slice L 10 cL, .slice S M cS] 33)) W → CB w w.heap.size E L S cE cL cS N M l W) := Lib.hid fun W hW => J.on hW
  clear h hN hM hr J hb
  generalize En.spn l s = p at *
  obtain ⟨a, b⟩ := p
  generalize s.length = n at *
  dsimp only at *
  go_enter Tryz.func144, Tryz.ntmps144
  go_wp2_with fail
  with_reducible refine HF.out.mono ?_
  rintro e w1 ⟨rfl, hb1⟩
  have J1 := HJ.out w1 hb1
  have J2 := J1.on ((Below.refl _ _).alloc (Nat.le_refl _) (.cells #[.int .i64 a, .int .i64 b] 115))
  have c0 := J1.c0
  have c1 := J1.c1
  have c2 := J1.c2
  have c3 := J1.c3
  have c4 := J1.c4
  have hlt := J1.lt
  clear HF hb1 HJ J1
  dsimp only
  go_wp2_with fail
  with_reducible refine (HK.out _ J2).mono ?_
  rintro e w2 ⟨X, cx, rfl, h2, h3⟩
  clear HK J2 c0 c1 c2 c3 c4
  go_wp2
  go_ret
  exact ⟨X, cx, rfl, h2, h3⟩

end Go.Proofs.YtoejenejleocdabGreatDoor

/- Places: where signs stand, rising. -/
namespace Go.Proofs.YtoejenejleocdabGreatDoor
open Go.RowKit
attribute [local irreducible] Bt.pop Bt.popF

/-- the ends of a span, sorted, are the places -/
theorem places_sorted (l s : List Int) : ((((endsI l).drop (En.spn l s).1).take ((En.spn l s).2 - (En.spn l s).1)).mergeSort fun a b => decide (a ≤ b)) = up (En.plc l s) := by
  have hp := En.spn_le l s
  refine mergeSort_eq ?_ (up_sorted (En.plc_rising l s))
  have h1 := (En.plc_perm l s).map (fun (n : Nat) => (n : Int))
  have e : ((endsI l).drop (En.spn l s).1).take ((En.spn l s).2 - (En.spn l s).1) = ((List.range' (En.spn l s).1 ((En.spn l s).2 - (En.spn l s).1)).map (En.eat l)).map (fun (n : Nat) => (n : Int)) := by
    apply List.ext_getElem
    · simp [endsI_length]; omega
    · intro i h2 h3
      simp only [List.length_map, List.length_range'] at h3
      have h4 : (En.spn l s).1 + i < (endsI l).length := by rw [endsI_length]; omega
      rw [List.getElem_take, List.getElem_drop, List.getElem_map, List.getElem_map, List.getElem_range']
      have := endsI_get l ((En.spn l s).1 + i)
      rw [show (endsI l).getD ((En.spn l s).1 + i) 0 = (endsI l)[(En.spn l s).1 + i] from by simp [h4]] at this
      rw [this, Nat.one_mul]
  rw [e]
  exact h1

set_option maxHeartbeats 1000000 in
theorem places_any (E L S A : Option Addr) (cE cL cS N M c : Nat) (l s : List Int) (w : World) (h : Cmb w E L S l) (hN : N = l.length) (hM : M = En.most l + 2) (hE : N ≤ cE) (hL : 10 ≤ cL) (hr : IRow w w.heap.size A s) (hcap : s.length ≤ c) (hs : s.length ≤ 17592186044416) :
    Calls Tryz.prog 56 #[.agg #[.slice E N cE, .int .i64 N, .int .i64 10, .slice L 10 cL, .slice S M cS], .slice A s.length c] w (Ints w (up (En.plc l s))) := by
  have hb := (Below.refl _ w).alloc (Nat.le_refl _) (.cells #[.slice E N cE, .int .i64 N, .int .i64 10, .slice L 10 cL, .slice S M cS] 33)
  have J : CB w w.heap.size E L S cE cL cS N M l _ := CB.start h hN hM hE hL (Below.refl _ _) 33
  have HF := Lib.hid (J.find A c s (hr.on hb) hcap hs)
  have HJ : Hid (∀ W, Below (w.alloc (.cells #[.slice E N cE, .int .i64 N, .int .i64 10, .slice L 10 cL, .slice S M cS] 33)).heap.size (w.alloc (.cells #[.slice E N cE, .int .i64 N, .int .i64 10, .slice L 10 cL, .slice S M cS] 33)) W → CB w w.heap.size E L S cE cL cS N M l W) := Lib.hid fun W hW => J.on hW
  have hp := En.spn_le l s
  have hsm := h.small
  have hpos := h.sg.pos
  have HS := Lib.hid (places_sorted l s)
  have HP := Lib.hid (En.plc_len l s)
  have ha : (En.spn l s).1 < cE := by
    unfold En.spn at hp ⊢
    split <;> rename_i hc
    · rw [if_pos hc] at hp; simp at hp ⊢; omega
    · simp; omega
  have hE0 : Row w w.heap.size E (endsI l).length (fun i => .int .i64 ((endsI l).getD i 0)) := h.ends
  rw [endsI_length, ← hN] at hE0
  obtain ⟨g, o, rfl, hg, hcE⟩ := hE0 (by omega)
  have HCl : Hid (∀ W, Below w.heap.size w W → Calls Tryz.prog 94 #[.slice (some ⟨g, o + (En.spn l s).1, none⟩) ((En.spn l s).2 - (En.spn l s).1) (cE - (En.spn l s).1)] W fun e w' => ∃ X cx, e = .returned (.slice X ((En.spn l s).2 - (En.spn l s).1) cx) ∧ w'.ownsRow w.heap.size 3 1 (.slice X ((En.spn l s).2 - (En.spn l s).1) cx) ((En.spn l s).2 - (En.spn l s).1) ((((endsI l).drop (En.spn l s).1).take ((En.spn l s).2 - (En.spn l s).1)).map (Value.int .i64)) ∧ Below w.heap.size w w') := Lib.hid fun W hW => by
    have hlen : (((endsI l).drop (En.spn l s).1).take ((En.spn l s).2 - (En.spn l s).1)).length = (En.spn l s).2 - (En.spn l s).1 := by
      rw [List.length_take, List.length_drop, endsI_length]; omega
    have := clone_any (some ⟨g, o + (En.spn l s).1, none⟩) (cE - (En.spn l s).1) (((endsI l).drop (En.spn l s).1).take ((En.spn l s).2 - (En.spn l s).1)) W (fun hp' => ⟨g, o + (En.spn l s).1, rfl, Nat.lt_of_lt_of_le hg hW.size, fun i hi => by
      rw [hlen] at hi
      have h1 := (hW.cell (p := ⟨g, o + ((En.spn l s).1 + i), none⟩) hg).trans (hcE ((En.spn l s).1 + i) (by omega))
      rw [Nat.add_assoc, h1]
      dsimp only
      rw [List.getD_eq_getElem?_getD, List.getD_eq_getElem?_getD, List.getElem?_take, if_pos hi, List.getElem?_drop]⟩) (by rw [hlen]; omega)
    rw [hlen] at this
    refine this.mono ?_
    rintro e w' ⟨v, rfl, h1, h2⟩
    obtain ⟨X, cx, rfl, _⟩ := own_slice h1
    exact ⟨X, cx, rfl, own_base h1 hW.size, hW.trans (h2.mono hW.size)⟩
  have HSo : Hid (∀ W X cx, W.ownsRow w.heap.size 3 1 (.slice X ((En.spn l s).2 - (En.spn l s).1) cx) ((En.spn l s).2 - (En.spn l s).1) ((((endsI l).drop (En.spn l s).1).take ((En.spn l s).2 - (En.spn l s).1)).map (Value.int .i64)) → Below w.heap.size w W → Calls Tryz.prog 95 #[.slice X ((En.spn l s).2 - (En.spn l s).1) cx] W fun e w' => e = .returned (.tuple #[]) ∧ IRow w' w'.heap.size X (up (En.plc l s)) ∧ Below w.heap.size w w') := Lib.hid fun W X cx h1 h2 => by
    refine (sortI_any _ X _ cx w.heap.size W h1 (by omega)).mono ?_
    rintro e w' ⟨rfl, h3, h4⟩
    rw [HS.out] at h3
    obtain ⟨_, h5⟩ := own_row (0 : Int) h3
    rw [← HP.out, ← up_len] at h5
    exact ⟨rfl, h5, h2.trans h4⟩
  have HL0 : Hid ((up (En.plc l s)).length = (En.spn l s).2 - (En.spn l s).1) := Lib.hid (by rw [up_len, HP.out])
  have hN1 := hN
  clear h hN hM hr J hb hcE hE0 HS HP
  rw [← hN1] at hp
  clear hN1 hpos
  generalize En.spn l s = p at *
  obtain ⟨a, b⟩ := p
  generalize s.length = n at *
  dsimp only at *
  have z1 : ¬ ((a : Int) < 0) := by omega
  have z2 : ¬ (N < b) := by omega
  have z3 : a ≤ b := by omega
  have z4 : b ≤ cE := by omega
  have z5 : ¬ a = cE := by omega
  go_enter Tryz.func56, Tryz.ntmps56
  go_wp2_with fail
  with_reducible refine HF.out.mono ?_
  rintro e w1 ⟨rfl, hb1⟩
  have J1 := HJ.out w1 hb1
  have c0 := J1.c0
  have hlt := J1.lt
  have hold := J1.old
  have hold2 := hold.alloc hold.size (.cells #[.int .i64 a, .int .i64 b] 115)
  clear HF hb1 HJ J1
  dsimp only
  go_wp2_with fail
  with_reducible refine (HCl.out _ hold2).mono ?_
  rintro e w2 ⟨X, cx, rfl, h1, h2⟩
  clear HCl c0 hold hold2
  have HS2 := Lib.hid (HSo.out w2 X cx h1 h2)
  clear HSo h1 h2
  go_wp2_with fail
  with_reducible refine HS2.out.mono ?_
  rintro e w3 ⟨rfl, h3, h4⟩
  clear HS2
  go_wp2
  go_ret
  exact ⟨X, cx, by rw [HL0.out]; rfl, h3, h4⟩

end Go.Proofs.YtoejenejleocdabGreatDoor

/- Behinds: the unlike numbers that stand behind signs, rising. -/
namespace Go.Proofs.YtoejenejleocdabGreatDoor
open Go.RowKit
attribute [local irreducible] Bt.pop Bt.popF

/-- those below k -/
def bhk (l s : List Int) (k : Nat) : List Nat := (List.range k).filter fun x => decide (0 < (En.plc l (s ++ [((x : Nat) : Int)])).length)
theorem bhk_succ (l s : List Int) (k : Nat) : bhk l s (k + 1) = bhk l s k ++ if 0 < (En.plc l (s ++ [((k : Nat) : Int)])).length then [k] else [] := by
  unfold bhk
  rw [List.range_succ, List.filter_append]
  congr 1
  rw [List.filter_cons, List.filter_nil]
  simp
theorem bhk_len (l s : List Int) (k : Nat) : (bhk l s k).length ≤ k := Nat.le_trans (List.length_filter_le _ _) (by simp)

/-- the index in its box; the signs with one more behind them; the numbers so far -/
structure BH (w0 : World) (n g cap b1 : Nat) (s : List Int) (k : Int) (K : List Int) (v : Value) (W : World) : Prop where
  mo : W.ownsRow w0.heap.size 3 1 (.slice (some ⟨g, 0, none⟩) (n + 1) cap) (n + 1) (s.map (Value.int .i64) ++ [.int .i64 k])
  bh : W.ownsRow b1 3 1 v K.length (K.map (Value.int .i64))
  old : Below w0.heap.size w0 W
  glt : g < b1
  b1le : b1 ≤ W.heap.size
  len : n = s.length
section
variable {w0 : World} {n g cap b1 : Nat} {s K : List Int} {k : Int} {v : Value} {W W' : World}
theorem BH.on (h : BH w0 n g cap b1 s k K v W) (hb : Below W.heap.size W W') : BH w0 n g cap b1 s k K v W' :=
  ⟨own_below h.mo hb, own_below h.bh hb, h.old.trans (hb.mono h.old.size), h.glt, Nat.le_trans h.b1le hb.size, h.len⟩
theorem BH.row (h : BH w0 n g cap b1 s k K v W) : IRow W W.heap.size (some ⟨g, 0, none⟩) (s ++ [k]) := by
  have h1 : W.ownsRow w0.heap.size 3 1 (.slice (some ⟨g, 0, none⟩) (n + 1) cap) (n + 1) ((s ++ [k]).map (Value.int .i64)) := by simpa using h.mo
  obtain ⟨h2, h3⟩ := own_row (0 : Int) h1
  rw [h2] at h3
  exact h3
theorem BH.capOk (h : BH w0 n g cap b1 s k K v W) : n + 1 ≤ cap := by
  obtain ⟨A, c, e, hc⟩ := own_slice h.mo
  injection e with _ _ e
  omega
theorem BH.set (h : BH w0 n g cap b1 s k K v W) (x : Int) : BH w0 n g cap b1 s x K v (W.setCell ⟨g, n, none⟩ (.int .i64 x)) := by
  have h1 := (h.mo.stored n (.int .i64 x)).1
  have e : (s.map (Value.int .i64) ++ [Value.int .i64 k]).set n (Value.int .i64 x) = s.map (Value.int .i64) ++ [Value.int .i64 x] := by
    rw [h.len]
    have : (s.map (Value.int .i64)).length = s.length := List.length_map _
    rw [List.set_append_right _ _ (by rw [this]; exact Nat.le_refl _), this, Nat.sub_self]
    rfl
  rw [e] at h1
  have hg := (h.mo.lt g rfl).1
  exact ⟨h1, ownsRow_setCell_below h.bh (a := ⟨g, n, none⟩) h.glt _, h.old.setCell (p := ⟨g, n, none⟩) hg _, h.glt, by simpa using h.b1le, h.len⟩
theorem BH.last (h : BH w0 n g cap b1 s k K v W) : W.cell? ⟨g, n, none⟩ = some (.int .i64 k) := by
  rw [h.mo.cellAt n (by omega), h.len]
  simp
theorem BH.app (h : BH w0 n g cap b1 s k K v W) (x : Int) {v' : Value} (h2 : W'.ownsRow b1 3 1 v' (K.length + 1) (K.map (Value.int .i64) ++ [.int .i64 x])) (hg : W.grownBy W' v.ownBlock) : BH w0 n g cap b1 s k (K ++ [x]) v' W' := by
  have hlt := (h.mo.lt g rfl).2
  refine ⟨own_block h.mo (hg.block g hlt (fun e => ?_)), by simpa using h2, h.old.grown hg h.old.size (fun g' hg' => ?_), h.glt, Nat.le_trans h.b1le hg.size, h.len⟩
  · have := (h.bh.lt g e.symm).1
    have := h.glt
    omega
  · have := (h.bh.lt g' hg').1
    have := h.glt
    have := (h.mo.lt g rfl).1
    omega
end

/-- a call that hands back numbers in a row of its own -/
def OLs (w : World) (L : List Int) (e : Ending) (w' : World) : Prop := ∃ v, e = .returned v ∧ OL w L v w'

set_option maxHeartbeats 2000000 in
theorem behinds_own (E L S A : Option Addr) (cE cL cS N M c : Nat) (l s : List Int) (w : World) (h : Cmb w E L S l) (hN : N = l.length) (hM : M = En.most l + 2) (hE : N ≤ cE) (hL : 10 ≤ cL) (hr : IRow w w.heap.size A s) (hs : s.length ≤ 17592186044415) :
    Calls Tryz.prog 111 #[.agg #[.slice E N cE, .int .i64 N, .int .i64 10, .slice L 10 cL, .slice S M cS], .slice A s.length c] w (OLs w (up (En.bhd l s))) := by
  obtain ⟨w0, hw0⟩ : ∃ w0, w0 = w.alloc (.cells #[.slice E N cE, .int .i64 N, .int .i64 10, .slice L 10 cL, .slice S M cS] 33) := ⟨_, rfl⟩
  have hb : Below w.heap.size w w0 := by rw [hw0]; exact (Below.refl _ w).alloc (Nat.le_refl _) _
  have J : CB w w.heap.size E L S cE cL cS N M l w0 := by rw [hw0]; exact CB.start h hN hM hE hL (Below.refl _ _) 33
  have HC := Lib.hid (clone_any A c s w0 (hr.on hb) (by omega))
  have HJ : Hid (∀ W, Below w0.heap.size w0 W → CB w w.heap.size E L S cE cL cS N M l W) := Lib.hid fun W hW => J.on hW
  have hM2 : M < 4611686018427387904 := by have := h.fit; omega
  have HNum : Hid (∀ (n g cap b1 : Nat) (k : Int) (K : List Int) (v : Value) W, BH w0 n g cap b1 s k K v W → Calls Tryz.prog 143 #[.agg #[.slice E N cE, .int .i64 N, .int .i64 10, .slice L 10 cL, .slice S M cS]] W fun e w' => e = .returned (.int .i64 ((M : Int) - 1)) ∧ BH w0 n g cap b1 s k K v w') := Lib.hid fun n g cap b1 k K v W hW => (numbers_any E L S N cE N 10 10 cL M cS W hM2).mono fun e w' hh => And.intro hh.1 (hW.on hh.2)
  have HCn : Hid (∀ (n g cap b1 : Nat) (k : Nat) (K : List Int) (v : Value) W, BH w0 n g cap b1 s k K v W → Calls Tryz.prog 53 #[.agg #[.slice E N cE, .int .i64 N, .int .i64 10, .slice L 10 cL, .slice S M cS], .slice (some ⟨g, 0, none⟩) (n + 1) cap] W fun e w' => e = .returned (.int .i64 ((En.plc l (s ++ [(k : Int)])).length : Nat)) ∧ BH w0 n g cap b1 s k K v w') := Lib.hid fun n g cap b1 k K v W hW => by
    have J1 := HJ.out W hW.old
    have hc := hW.capOk
    have e1 : (s ++ [(k : Int)]).length = n + 1 := by rw [List.length_append, hW.len]; rfl
    have := count_any E L S (some ⟨g, 0, none⟩) cE cL cS N M cap l (s ++ [(k : Int)]) W J1.cmb hN hM hE hL hW.row (by omega) (by have := hW.len; omega)
    rw [e1] at this
    exact this.mono fun e w' hh => And.intro hh.1 (hW.on hh.2)
  have HB : Hid (∀ k, bhk l s (k + 1) = bhk l s k ++ if 0 < (En.plc l (s ++ [((k : Nat) : Int)])).length then [k] else []) := Lib.hid (bhk_succ l s)
  have HBl := Lib.hid (bhk_len l s)
  have HBe : Hid (bhk l s (M - 1) = En.bhd l s) := Lib.hid (by rw [hM]; rfl)
  have hM3 : 2 ≤ M := by omega
  have HM1 : Hid ((M : Int) - 1 = ((M - 1 : Nat) : Int)) := Lib.hid (by omega)
  have hM4 : M - 1 ≤ 1025 := by have := h.fit; omega
  have HW0 := Lib.hid hw0
  have Hb := Lib.hid hb
  have Hsz : Hid (w0.heap.size = w.heap.size + 1) := Lib.hid (by rw [hw0]; simp)
  have HLen : Hid (s.length = s.length) := Lib.hid rfl
  generalize hnn : s.length = n at *
  have Hn := Lib.hid hnn
  clear h hN hM hr J hb hw0 hnn HLen
  go_enter Tryz.func111, Tryz.ntmps111
  go_wp2_with fail
  rw [← HW0.out]
  with_reducible refine HC.out.mono ?_
  rintro e w1 ⟨v, rfl, h1, h2⟩
  clear HC
  obtain ⟨X, cx, rfl, hcx⟩ := own_slice h1
  have hbs := h2.size
  go_wp2_with (at_builtin; refine wpList_app1 _ rfl _ _ 22 rfl w0.heap.size 3 (.int .i64 0) 8 Tryz.underlying22 infoInt4 rfl _ n _ rfl w1.heap.size (.int .i64 0) rfl (own_below h1 ((Below.refl _ _).alloc (Nat.le_refl _) _)) (new1 _ _ _) (by simp) (by simp [Value.oneCell']) (by unfold maxLen; omega) (by omega) (by simp; omega) ?_; intro v' w2 hown hg _; obtain ⟨g, cap, hv', _, _⟩ := hown.form (by omega); subst hv'; have J0 : BH w0 n g cap w2.heap.size s 0 [] (.slice none 0 0) w2 := ⟨hown, World.ownsRow_nil _ _ _ _, (h2.alloc h2.size _).grown hg (by simp; omega) (fun g' e => (h1.lt g' e).1), (hown.lt g rfl).2, Nat.le_refl _, Hn.out.symm⟩; have c0 := (HJ.out w2 J0.old).c0; have c1 := (HJ.out w2 J0.old).c1; have c2 := (HJ.out w2 J0.old).c2; have c3 := (HJ.out w2 J0.old).c3; have c4 := (HJ.out w2 J0.old).c4; clear hg hown h1 h2 hcx hbs)
  generalize w2.heap.size = b1 at *
  with_reducible refine (HNum.out n g cap b1 0 [] _ w2 J0).mono ?_
  rintro e w3 ⟨rfl, J1⟩
  clear HNum J0 c0 c1 c2 c3 c4
  rw [HM1.out]
  go_wp2
  go_loopw [6, 14] (fun s6 t W => ∃ (k : Nat) (q : Int), k ≤ M - 1 ∧ t = .int .i64 k ∧ BH w0 n g cap b1 s q (up (bhk l s k)) s6 W) (fun _ t _ => M - 1 - (intOf t).toNat)
  case atStart => exact ⟨0, 0, Nat.zero_le _, rfl, by simpa [bhk, up] using J1⟩
  case round =>
    obtain ⟨k, q, hk, rfl, J⟩ := hrel
    clear J1
    by_cases hlt : k < M - 1
    · have hlz : (k : Int) < ((M - 1 : Nat) : Int) := by omega
      have hB1 := Lib.hid (HB.out k)
      have hlen := HBl.out k
      have HCk := Lib.hid (HCn.out n g cap b1 k (up (bhk l s k)))
      have HUp : Hid (up (bhk l s k ++ [k]) = up (bhk l s k) ++ [(k : Int)]) := Lib.hid (up_append _ _)
      have HUn := Lib.hid (up_len (bhk l s k))
      generalize (En.plc l (s ++ [(k : Int)])).length = m at *
      have cl := J.last
      have fl := J.mo.frozenAt n
      have J2 := J.set (k : Int)
      have C0 := HJ.out _ J2.old
      have c0 := C0.c0
      have c1 := C0.c1
      have c2 := C0.c2
      have c3 := C0.c3
      have c4 := C0.c4
      clear C0 J
      go_wp2_with fail
      with_reducible refine (HCk.out _ _ J2).mono ?_
      rintro e w4 ⟨rfl, J3⟩
      clear HCk J2 c0 c1 c2 c3 c4 cl fl HCn HB
      by_cases hm : 0 < m
      · have hbe := Lib.hid (show up (bhk l s (k + 1)) = up (bhk l s k) ++ [(k : Int)] from by rw [hB1.out, if_pos hm, HUp.out])
        have hl2 : (up (bhk l s k)).length ≤ 1025 := by rw [HUn.out]; omega
        clear hB1 HUp HUn
        generalize up (bhk l s k) = K at *
        have J4 := J3.on ((Below.refl _ _).alloc (Nat.le_refl _) (.cells #[.int .i64 k] 3))
        have hb1 := J4.b1le
        have hmx : K.length + 1 ≤ maxLen := by unfold maxLen; omega
        obtain ⟨Y, cy, hy, _⟩ := own_slice J3.bh
        subst hy
        go_wp2_with (at_builtin; refine wpList_app1 _ rfl _ _ 22 rfl b1 3 (.int .i64 0) 8 Tryz.underlying22 infoInt4 rfl _ K.length _ rfl w4.heap.size (.int .i64 k) rfl J4.bh (new1 _ _ _) (by simp) rfl hmx (by omega) hb1 ?_; intro v' w5 h5 h6 _; have J5 := J4.app (k : Int) h5 h6)
        go_roundw
        case rel => exact ⟨k + 1, k, by omega, by go_num, by rw [hbe.out]; exact J5⟩
        case measure => simp [intOf]; omega
      · have hbe := Lib.hid (show bhk l s (k + 1) = bhk l s k from by rw [hB1.out, if_neg hm, List.append_nil])
        obtain rfl : m = 0 := by omega
        clear hB1 HUp HUn
        go_wp2
        go_roundw
        case rel => exact ⟨k + 1, k, by omega, by go_num, by rw [hbe.out]; exact J3⟩
        case measure => simp [intOf]; omega
    · obtain rfl : k = M - 1 := by omega
      rw [HBe.out] at J
      have hold := Hb.out.trans (J.old.mono Hb.out.size)
      have hbh := J.bh
      have hbb : w.heap.size ≤ b1 := by have := (J.mo.lt g rfl).1; have := J.glt; have := Hsz.out; omega
      have HO := Lib.hid (own_base hbh hbb)
      obtain ⟨Y, cy, hy, _⟩ := own_slice hbh
      subst hy
      clear HB HCn HBl HBe J hbh hbb
      go_wp2
      go_ret
      exact ⟨_, rfl, ⟨HO.out, hold⟩⟩
end Go.Proofs.YtoejenejleocdabGreatDoor
