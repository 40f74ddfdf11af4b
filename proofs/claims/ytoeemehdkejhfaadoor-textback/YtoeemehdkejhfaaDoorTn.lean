/- The book of lines of words, and what it is again as a text: plain. No program is named here. -/
import Derived.Test.YtoeemehdkejhfaaDoorTf
namespace Go.Proofs.YtoeemehdkejhfaaDoor
namespace Tx

/-- lines, all words of which have the form -/
structure Formed (ls : List (List Wd)) : Prop where
  ne : ls ≠ []
  form : ∀ L ∈ ls, ∀ w ∈ L, isWord w = true
theorem formed_of {ls : List (List Wd)} (h0 : ls ≠ []) (h : ls.flatten.all isWord = true) : Formed ls := by
  refine ⟨h0, fun L hL w hw => ?_⟩
  rw [List.all_eq_true] at h
  exact h w (List.mem_flatten.2 ⟨L, hL, hw⟩)
theorem Formed.all {ls : List (List Wd)} (h : Formed ls) : ls.flatten.all isWord = true := by
  rw [List.all_eq_true]
  intro w hw
  obtain ⟨L, hL, hw⟩ := List.mem_flatten.1 hw
  exact h.form L hL w hw

/-- the book's words and text -/
def bw (ls : List (List Wd)) : List Wd := wordsOf ls.flatten
def bt (ls : List (List Wd)) : List Int := nums (findIn (bw ls)) (toks ls) ++ [1, 0]

theorem bw_rising (ls : List (List Wd)) : (bw ls).Pairwise (· < ·) := wordsOf_rising _
theorem mem_bw (ls : List (List Wd)) (w : Wd) : w ∈ bw ls ↔ ∃ L ∈ ls, w ∈ L := by
  unfold bw
  rw [mem_wordsOf, List.mem_flatten]
theorem bw_form {ls : List (List Wd)} (h : Formed ls) : (bw ls).all isWord = true := by
  rw [List.all_eq_true]
  intro w hw
  obtain ⟨L, hL, hw⟩ := (mem_bw ls w).1 hw
  exact h.form L hL w hw
theorem bw_length (ls : List (List Wd)) : (bw ls).length ≤ ls.flatten.length := wordsOf_length _
theorem bw_find (ls : List (List Wd)) {L : List Wd} (hL : L ∈ ls) {w : Wd} (hw : w ∈ L) : ∃ k, k < (bw ls).length ∧ (bw ls).getD k [] = w ∧ findIn (bw ls) w = some k :=
  findIn_mem (bw_rising ls) ((mem_bw ls w).2 ⟨L, hL, hw⟩)
theorem bw_allIn (ls : List (List Wd)) : allIn (findIn (bw ls)) ls = true := by
  unfold allIn
  rw [List.all_eq_true]
  intro L hL
  rw [List.all_eq_true]
  intro w hw
  obtain ⟨k, _, _, h⟩ := bw_find ls hL hw
  rw [h]; rfl
theorem bt_length (ls : List (List Wd)) : (bt ls).length = (toks ls).length + 2 := by simp [bt, nums]

/-- a token's number, and the token that a number stands for -/
theorem num_tok (ls : List (List Wd)) (t : Option Wd) (ht : t ∈ toks ls) :
    (t = none ∧ numB (findIn (bw ls)) t = 1) ∨ ∃ w k, t = some w ∧ k < (bw ls).length ∧ (bw ls).getD k [] = w ∧ numB (findIn (bw ls)) t = (k : Int) + 2 := by
  cases t with
  | none => exact .inl ⟨rfl, rfl⟩
  | some w =>
    obtain ⟨L, hL, hw⟩ := (mem_toks ls w).1 ht
    obtain ⟨k, h1, h2, h3⟩ := bw_find ls hL hw
    exact .inr ⟨w, k, rfl, h1, h2, by simp [numB, h3]⟩

theorem getD_mem {α : Type} (l : List α) (d : α) (i : Nat) (h : i < l.length) : l.getD i d ∈ l := by
  rw [List.getD_eq_getElem?_getD, List.getElem?_eq_getElem h]; exact List.getElem_mem h
theorem bt_at (ls : List (List Wd)) (i : Nat) (hi : i < (toks ls).length) : (bt ls).getD i 0 = numB (findIn (bw ls)) ((toks ls).getD i none) := by
  unfold bt nums
  simp only [List.getD_eq_getElem?_getD]
  rw [List.getElem?_append_left (by simpa using hi), List.getElem?_map, List.getElem?_eq_getElem hi]
  rfl
theorem bt_stop (ls : List (List Wd)) : (bt ls).getD (toks ls).length 0 = 1 := by
  unfold bt nums
  simp [List.getD_eq_getElem?_getD]
theorem bt_last (ls : List (List Wd)) : (bt ls).getD ((toks ls).length + 1) 0 = 0 := by
  unfold bt nums
  simp [List.getD_eq_getElem?_getD]
theorem bt_range (ls : List (List Wd)) (i : Nat) (hi : i < (toks ls).length) : 1 ≤ (bt ls).getD i 0 ∧ (bt ls).getD i 0 < (bw ls).length + 2 := by
  rw [bt_at ls i hi]
  rcases num_tok ls _ (getD_mem (toks ls) none i hi) with ⟨_, h⟩ | ⟨w, k, _, hk, _, h⟩
  · rw [h]; omega
  · rw [h]; omega
theorem bt_all (ls : List (List Wd)) (i : Nat) (hi : i < (bt ls).length) : 0 ≤ (bt ls).getD i 0 ∧ (bt ls).getD i 0 < (bw ls).length + 2 := by
  rw [bt_length] at hi
  by_cases h1 : i < (toks ls).length
  · have := bt_range ls i h1; omega
  · by_cases h2 : i = (toks ls).length
    · subst h2; rw [bt_stop]; omega
    · obtain rfl : i = (toks ls).length + 1 := by omega
      rw [bt_last]; omega
theorem bt_seen (ls : List (List Wd)) (j : Nat) (hj : j < (bw ls).length) : ((bt ls).take (bt ls).length).any (fun x => decide (x = (j : Int) + 2)) = true := by
  rw [List.take_length, List.any_eq_true]
  have hm := getD_mem (bw ls) [] j hj
  obtain ⟨L, hL, hw⟩ := (mem_bw ls _).1 hm
  have ht := (mem_toks ls _).2 ⟨L, hL, hw⟩
  refine ⟨numB (findIn (bw ls)) (some ((bw ls).getD j [])), ?_, ?_⟩
  · unfold bt nums
    exact List.mem_append_left _ (List.mem_map_of_mem ht)
  · have h := findIn_at (bw_rising ls) hj
    show decide ((((findIn (bw ls) ((bw ls).getD j [])).getD 0 + 2 : Nat) : Int) = (j : Int) + 2) = true
    rw [h]
    simp

/-- what a sign is again, by the words -/
def signB (ws : List Wd) (x : Int) : Wd := if x = 1 then [10] else if 1 < x ∧ x - 2 < ws.length then 32 :: ws.getD (x - 2).toNat [] else []
def backT (ws : List Wd) (T : List Int) : Wd := T.flatMap (signB ws)

theorem sign_tok (ls : List (List Wd)) (t : Option Wd) (ht : t ∈ toks ls) : signB (bw ls) (numB (findIn (bw ls)) t) = tokB t := by
  rcases num_tok ls t ht with ⟨rfl, h⟩ | ⟨w, k, rfl, hk, hw, h⟩
  · rw [h]; rfl
  · rw [h]
    unfold signB
    rw [if_neg (by omega), if_pos (by omega), show ((k : Int) + 2 - 2).toNat = k from by omega, hw]
    rfl
theorem flatMap_congr' {α β : Type} (l : List α) (f g : α → List β) (h : ∀ x ∈ l, f x = g x) : l.flatMap f = l.flatMap g := by
  induction l with
  | nil => rfl
  | cons x l ih => simp only [List.flatMap_cons]; rw [h x (by simp), ih (fun y hy => h y (by simp [hy]))]
theorem back_bt (ls : List (List Wd)) : backT (bw ls) (bt ls) = backB ls ++ [10] := by
  unfold backT bt nums backB
  rw [List.flatMap_append, List.flatMap_map, flatMap_congr' _ _ tokB (fun t ht => sign_tok ls t ht)]
  congr 1
theorem backT_take (ws : List Wd) (T : List Int) (k : Nat) (hk : k < T.length) : backT ws (T.take (k + 1)) = backT ws (T.take k) ++ signB ws (T.getD k 0) := by
  unfold backT
  rw [List.take_succ_eq_append_getElem hk, List.flatMap_append, List.getD_eq_getElem?_getD, List.getElem?_eq_getElem hk]
  simp
theorem signB_length (ls : List (List Wd)) (h : Formed ls) (x : Int) : (signB (bw ls) x).length ≤ 9 := by
  unfold signB
  split
  · simp
  · split
    · rename_i h1
      have hk : (x - 2).toNat < (bw ls).length := by omega
      have hm := getD_mem (bw ls) [] _ hk
      have := (List.all_eq_true.1 (bw_form h)) _ hm
      simp only [isWord, Bool.and_eq_true, decide_eq_true_eq] at this
      simp; have := this.1.2; simp [List.getD_eq_getElem?_getD] at this; omega
    · simp
theorem backT_length (ls : List (List Wd)) (h : Formed ls) (T : List Int) : (backT (bw ls) T).length ≤ 9 * T.length := by
  unfold backT
  induction T with
  | nil => simp
  | cons x T ih =>
    have := signB_length ls h x
    simp only [List.flatMap_cons, List.length_append, List.length_cons]
    omega

/-- the signs of the text that is written again -/
theorem back_cut {ls : List (List Wd)} (h : Formed ls) : cutB (backB ls ++ [10]) = ls ++ [[]] ∧ cutB (trimB (backB ls ++ [10])) = ls := by
  obtain ⟨h1, h2⟩ := cut_back ls h.ne h.form
  rw [trimB_ten]
  exact ⟨h2, h1⟩
theorem back_allIn (ls : List (List Wd)) : allIn (findIn (bw ls)) (ls ++ [[]]) = true := by
  have := bw_allIn ls
  unfold allIn at this ⊢
  rw [List.all_append, this]; rfl
theorem back_toks {ls : List (List Wd)} (h : Formed ls) : toks (ls ++ [[]]) = toks ls ++ [none] := by
  rw [toks_snoc ls [] h.ne]; rfl
theorem back_nums {ls : List (List Wd)} (h : Formed ls) : nums (findIn (bw ls)) (toks (ls ++ [[]])) = nums (findIn (bw ls)) (toks ls) ++ [1] := by
  rw [back_toks h]; simp [nums, numB]
theorem back_at {ls : List (List Wd)} (i : Nat) (hi : i < (toks ls).length + 1) : (nums (findIn (bw ls)) (toks ls) ++ [1]).getD i 0 = (bt ls).getD i 0 := by
  unfold bt
  have hl : (nums (findIn (bw ls)) (toks ls)).length = (toks ls).length := by simp [nums]
  rw [show ([1, 0] : List Int) = [1] ++ [0] from rfl, ← List.append_assoc]
  simp only [List.getD_eq_getElem?_getD]
  rw [List.getElem?_append_left (l₁ := nums (findIn (bw ls)) (toks ls) ++ [1]) (by simp [hl]; omega)]

/-- what Read answers: its error, and its lines -/
def linesOf (l : Wd) : List (List Wd) := cutB (trimB l)
def errB (l : Wd) : Int := if 400 < l.length then 2 else if (linesOf l).flatten.all isWord = false then 1 else if 100 < (linesOf l).flatten.length + (linesOf l).length then 2 else 0
theorem errB_ok {l : Wd} (h : errB l = 0) : l.length ≤ 400 ∧ Formed (linesOf l) ∧ (linesOf l).flatten.length + (linesOf l).length ≤ 100 := by
  unfold errB at h
  split at h
  · cases h
  · split at h
    · cases h
    · split at h
      · cases h
      · rename_i h1 h2 h3
        exact ⟨by omega, formed_of (cutB_ne _) (by simpa using h2), by omega⟩
theorem errB_back {ls : List (List Wd)} (h : Formed ls) (hc : ls.flatten.length + ls.length ≤ 100) (hl : (backB ls ++ [10]).length ≤ 400) : errB (backB ls ++ [10]) = 0 ∧ linesOf (backB ls ++ [10]) = ls := by
  have e : linesOf (backB ls ++ [10]) = ls := (back_cut h).2
  refine ⟨?_, e⟩
  unfold errB
  rw [e, if_neg (by omega), if_neg (by rw [h.all]; simp), if_neg (by omega)]

end Tx
end Go.Proofs.YtoeemehdkejhfaaDoor
