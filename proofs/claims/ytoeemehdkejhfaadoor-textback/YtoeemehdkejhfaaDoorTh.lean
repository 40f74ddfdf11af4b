/- What text.numbers answers: the words' numbers, or that one is none. -/
import Derived.Test.YtoeemehdkejhfaaDoorTc
import Derived.Test.YtoeemehdkejhfaaDoorTf
import Derived.Deep.CutRange
namespace Go.Proofs.YtoeemehdkejhfaaDoor
open Go.RowKit Tx

theorem bs_raw (ws : List Wd) (A : Option Addr) (n c : Nat) (x : Wd) (w : World) (hA : SRow w w.heap.size A ws) (hn : n = ws.length) (hb : n ≤ 4294967296) :
    Calls Tryd.prog 41 #[.slice A n c, sv x] w fun e w' => e = .returned (.tuple #[.int .i64 (bsAt ws x : Nat), .bool (findIn ws x).isSome]) ∧ ∃ q, w' = w.drewN q := by
  by_cases h0 : n = 0
  · subst h0
    obtain rfl : ws = [] := List.eq_nil_of_length_eq_zero hn.symm
    refine (Any2.slices_BinarySearch_string_empty Tryd.lays2_26 A c ⟨x.toArray⟩ w).mono ?_
    rintro e w' ⟨rfl, rfl⟩
    exact ⟨rfl, 0, rfl⟩
  · obtain ⟨b, o, rfl, hbb, hc⟩ := hA (by omega)
    subst hn
    have h := Any2.slices_BinarySearch_string Tryd.lays2_26 b o ws.length c (fun j => ⟨(ws.getD j []).toArray⟩) ⟨x.toArray⟩ w (by omega) hc
    rw [bs_bytes] at h
    have e1 : decide (bsAt ws x < ws.length ∧ (⟨(ws.getD (bsAt ws x) []).toArray⟩ : ByteArray) = ⟨x.toArray⟩) = (findIn ws x).isSome := by
      unfold findIn
      by_cases hh : bsAt ws x < ws.length ∧ ws.getD (bsAt ws x) [] = x
      · rw [if_pos hh]; simp only [Option.isSome_some, decide_eq_true_eq]; exact ⟨hh.1, by rw [hh.2]⟩
      · rw [if_neg hh]; simp only [Option.isSome_none, decide_eq_false_iff_not]
        rintro ⟨h1, h2⟩
        refine hh ⟨h1, ?_⟩
        injection h2 with h2
        simpa using h2
    rw [e1] at h
    exact h
theorem bs_yes (ws : List Wd) (A : Option Addr) (n c : Nat) (x : Wd) (p : Nat) (w : World) (hA : SRow w w.heap.size A ws) (hn : n = ws.length) (hb : n ≤ 4294967296) (hf : findIn ws x = some p) :
    Calls Tryd.prog 41 #[.slice A n c, sv x] w fun e w' => e = .returned (.tuple #[.int .i64 (p : Nat), .bool true]) ∧ Below w.heap.size w w' := by
  have hp : bsAt ws x = p := by unfold findIn at hf; split at hf; · injection hf
                                · cases hf
  refine (bs_raw ws A n c x w hA hn hb).mono ?_
  rintro e w' ⟨rfl, q, rfl⟩
  rw [hf, hp]
  exact ⟨rfl, Below.drewN (Below.refl _ _) q⟩
theorem bs_no (ws : List Wd) (A : Option Addr) (n c : Nat) (x : Wd) (w : World) (hA : SRow w w.heap.size A ws) (hn : n = ws.length) (hb : n ≤ 4294967296) (hf : findIn ws x = none) :
    Calls Tryd.prog 41 #[.slice A n c, sv x] w fun e w' => e = .returned (.tuple #[.int .i64 (bsAt ws x : Nat), .bool false]) ∧ Below w.heap.size w w' := by
  refine (bs_raw ws A n c x w hA hn hb).mono ?_
  rintro e w' ⟨rfl, q, rfl⟩
  rw [hf]
  exact ⟨rfl, Below.drewN (Below.refl _ _) q⟩

/-- numbers as values -/
def iv (l : List Int) : List Value := l.map (Value.int .i64)
/-- what numbers hands back -/
def NumPost (ws : List Wd) (ls : List (List Wd)) (w : World) (e : Ending) (w' : World) : Prop :=
  (allIn (findIn ws) ls = true ∧ ∃ v, e = .returned (.tuple #[v, .bool true]) ∧ w'.ownsRow w.heap.size 3 1 v (toks ls).length (iv (nums (findIn ws) (toks ls))) ∧ Below w.heap.size w w') ∨
  (allIn (findIn ws) ls = false ∧ e = .returned (.tuple #[.slice none 0 0, .bool false]) ∧ Below w.heap.size w w')

/-- numbers in the making: of these tokens -/
structure NI (ws : List Wd) (ts : List (Option Wd)) (w : World) (v : Value) (wr : World) : Prop where
  own : wr.ownsRow w.heap.size 3 1 v ts.length (iv (nums (findIn ws) ts))
  old : Below w.heap.size w wr
theorem NI.on {ws : List Wd} {ts : List (Option Wd)} {w : World} {v : Value} {wr w' : World} (h : NI ws ts w v wr) (hb : Below wr.heap.size wr w') : NI ws ts w v w' := ⟨own_below h.own hb, h.old.trans (hb.mono h.old.size)⟩
theorem NI.app {ws : List Wd} {ts : List (Option Wd)} {w : World} {v v' : Value} {wr w' : World} (h : NI ws ts w v wr) (t : Option Wd) (x : Int) (hx : x = numB (findIn ws) t)
    (h2 : w'.ownsRow w.heap.size 3 1 v' (ts.length + 1) (iv (nums (findIn ws) ts) ++ [.int .i64 x])) (hg : wr.grownBy w' v.ownBlock) : NI ws (ts ++ [t]) w v' w' := by
  refine ⟨?_, h.old.grown hg h.old.size (fun g hg => (h.own.lt g hg).1)⟩
  subst hx
  simpa [iv, nums] using h2

theorem allIn_take (f : Wd → Option Nat) (ls : List (List Wd)) (i : Nat) (hi : i < ls.length) : allIn f (ls.take (i + 1)) = (allIn f (ls.take i) && (ls.getD i []).all fun w => (f w).isSome) := by
  unfold allIn
  rw [List.take_succ_eq_append_getElem hi, List.all_append, List.getD_eq_getElem?_getD, List.getElem?_eq_getElem hi]
  simp
theorem allIn_no (f : Wd → Option Nat) (ls : List (List Wd)) (i j : Nat) (hi : i < ls.length) (hj : j < (ls.getD i []).length) (h : f ((ls.getD i []).getD j []) = none) : allIn f ls = false := by
  unfold allIn
  rw [List.all_eq_false]
  have e : ls.getD i [] = ls[i] := by rw [List.getD_eq_getElem?_getD, List.getElem?_eq_getElem hi]; rfl
  refine ⟨ls[i], List.getElem_mem hi, ?_⟩
  rw [← e]
  intro hall
  rw [List.all_eq_true] at hall
  have := hall _ (List.getElem_mem hj)
  rw [List.getD_eq_getElem?_getD, List.getElem?_eq_getElem hj] at h
  simp only [Option.getD_some] at h
  rw [h] at this
  simp at this
theorem all_take' {α : Type} (p : α → Bool) (l : List α) (d : α) (k : Nat) (hk : k < l.length) : (l.take (k + 1)).all p = ((l.take k).all p && p (l.getD k d)) := by
  rw [List.take_succ_eq_append_getElem hk, List.all_append, List.getD_eq_getElem?_getD, List.getElem?_eq_getElem hk]
  simp
theorem map_take_some (L : List Wd) (j : Nat) (hj : j < L.length) : (L.take (j + 1)).map some = (L.take j).map some ++ [some (L.getD j [])] := by
  rw [List.take_succ_eq_append_getElem hj, List.map_append, List.getD_eq_getElem?_getD, List.getElem?_eq_getElem hj]
  rfl
theorem toks_take_le (ls : List (List Wd)) (i : Nat) : ((toks (ls.take i)).length : Nat) ≤ (toks ls).length := by
  by_cases h : i < ls.length
  · have : ∀ j, i ≤ j → j ≤ ls.length → (toks (ls.take i)).length ≤ (toks (ls.take j)).length := by
      intro j
      induction j with
      | zero => intro h1 _; have : i = 0 := by omega
                subst this; exact Nat.le_refl _
      | succ j ih =>
        intro h1 h2
        by_cases e : i = j + 1
        · rw [e]; exact Nat.le_refl _
        · refine Nat.le_trans (ih (by omega) (by omega)) ?_
          rw [toks_take ls j (by omega)]
          simp
    have h2 := this ls.length (by omega) (Nat.le_refl _)
    rwa [List.take_length] at h2
  · rw [List.take_of_length_le (by omega)]; exact Nat.le_refl _

end Go.Proofs.YtoeemehdkejhfaaDoor
