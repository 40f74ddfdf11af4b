/- Texts as numbers, plain: bytes cut into lines and words, words' numbers line by line, and what they are again as a text. No program is named here. -/
import Derived.Lib.FieldsP
import Derived.Lib.SplitLaws
namespace Go.Proofs.YtoeemehdkejhfaaDoor
namespace Tx

/-- a word, a text: bytes -/
abbrev Wd := List UInt8

/-- what stands between spaces; cur: the word that has begun -/
def fb : Wd → Wd → List Wd
  | cur, [] => if cur = [] then [] else [cur]
  | cur, c :: r => if c = 32 then (if cur = [] then fb [] r else cur :: fb [] r) else fb (cur ++ [c]) r
def fieldsB (l : Wd) : List Wd := fb [] l

/-- what stands between ends of lines -/
def sb : Wd → List Wd
  | [] => [[]]
  | c :: r => if c = 10 then [] :: sb r else match sb r with
    | [] => [[c]]
    | x :: t => (c :: x) :: t
def cutB (l : Wd) : List (List Wd) := (sb l).map fieldsB

/-- words line by line, none between two lines -/
def toks : List (List Wd) → List (Option Wd)
  | [] => []
  | [L] => L.map some
  | L :: M :: r => L.map some ++ none :: toks (M :: r)

theorem toks_snoc : ∀ (ls : List (List Wd)) (L : List Wd), ls ≠ [] → toks (ls ++ [L]) = toks ls ++ none :: L.map some
  | [], _, h => absurd rfl h
  | [K], L, _ => rfl
  | K :: M :: r, L, _ => by
    have ih := toks_snoc (M :: r) L (by simp)
    simp only [List.cons_append] at ih
    simp [toks, ih]
theorem toks_one (L : List Wd) : toks [L] = L.map some := rfl
theorem toks_take (ls : List (List Wd)) (i : Nat) (hi : i < ls.length) : toks (ls.take (i + 1)) = toks (ls.take i) ++ (if i = 0 then [] else [none]) ++ (ls.getD i []).map some := by
  have e : ls.take (i + 1) = ls.take i ++ [ls.getD i []] := by
    rw [List.take_succ_eq_append_getElem hi, List.getD_eq_getElem?_getD, List.getElem?_eq_getElem hi]; rfl
  rw [e]
  by_cases h0 : i = 0
  · subst h0; simp [toks]
  · have hne : ls.take i ≠ [] := fun h => by have := congrArg List.length h; simp at this; rcases this with h | h; exact h0 h; rw [h] at hi; simp at hi
    rw [toks_snoc _ _ hne, if_neg h0]
    simp
theorem mem_toks : ∀ (ls : List (List Wd)) (w : Wd), some w ∈ toks ls ↔ ∃ L ∈ ls, w ∈ L
  | [], w => by simp [toks]
  | [L], w => by simp [toks]
  | L :: M :: r, w => by
    have ih := mem_toks (M :: r) w
    simp only [toks, List.mem_append, List.mem_map, Option.some.injEq, exists_eq_right, List.mem_cons, reduceCtorEq, false_or, ih]
    constructor
    · rintro (h | ⟨K, h1, h2⟩)
      · exact ⟨L, .inl rfl, h⟩
      · exact ⟨K, .inr h1, h2⟩
    · rintro ⟨K, rfl | h1, h2⟩
      · exact .inl h2
      · exact .inr ⟨K, h1, h2⟩
theorem toks_length : ∀ (ls : List (List Wd)), (toks ls).length ≤ ls.flatten.length + ls.length
  | [] => by simp [toks]
  | [L] => by simp [toks]
  | L :: M :: r => by
    have ih := toks_length (M :: r)
    simp only [toks, List.length_append, List.length_map, List.length_cons, List.flatten_cons] at ih ⊢
    omega

/-- the number of a word, or of a line's end, by a search -/
def numB (find : Wd → Option Nat) : Option Wd → Int
  | none => 1
  | some w => (((find w).getD 0 + 2 : Nat) : Int)
def nums (find : Wd → Option Nat) (ts : List (Option Wd)) : List Int := ts.map (numB find)
def allIn (find : Wd → Option Nat) (ls : List (List Wd)) : Bool := ls.all fun L => L.all fun w => (find w).isSome

/-- letters, and words that have the form -/
def letter (c : UInt8) : Bool := decide (97 ≤ c.toNat ∧ c.toNat ≤ 122)
def isWord (w : Wd) : Bool := decide (1 ≤ w.length ∧ w.length ≤ 8) && w.all letter

theorem letter_ne (c : UInt8) (h : letter c = true) : c ≠ 32 ∧ c ≠ 10 := by
  unfold letter at h
  have h' := of_decide_eq_true h
  constructor <;> (rintro rfl; revert h'; decide)
theorem isWord_ne {w : Wd} (h : isWord w = true) : w ≠ [] ∧ ∀ c ∈ w, c ≠ 32 ∧ c ≠ 10 := by
  simp only [isWord, Bool.and_eq_true, decide_eq_true_eq, List.all_eq_true] at h
  exact ⟨fun e => by subst e; simp at h, fun c hc => letter_ne c (h.2 c hc)⟩

/-- a line, and all lines, written again: each word behind a space, each line ended -/
def lineB (L : List Wd) : Wd := L.flatMap fun w => 32 :: w
def tokB : Option Wd → Wd
  | none => [10]
  | some w => 32 :: w
def backB (ls : List (List Wd)) : Wd := (toks ls).flatMap tokB

theorem fb_word : ∀ (w cur r : Wd), (∀ c ∈ w, c ≠ 32) → fb cur (w ++ r) = fb (cur ++ w) r
  | [], cur, r, _ => by simp
  | c :: w, cur, r, h => by
    have hc : c ≠ 32 := h c (by simp)
    rw [List.cons_append, fb, if_neg hc, fb_word w _ r (fun d hd => h d (by simp [hd]))]
    simp
theorem fb_line : ∀ (L : List Wd), (∀ w ∈ L, w ≠ [] ∧ ∀ c ∈ w, c ≠ 32) → (∀ cur : Wd, cur ≠ [] → fb cur (lineB L) = cur :: L) ∧ fb [] (lineB L) = L
  | [], _ => ⟨fun cur h => by simp [lineB, fb, h], by simp [lineB, fb]⟩
  | w :: L, h => by
    obtain ⟨h1, _⟩ := fb_line L (fun x hx => h x (by simp [hx]))
    obtain ⟨hw, hc⟩ := h w (by simp)
    have e : lineB (w :: L) = 32 :: (w ++ lineB L) := by simp [lineB]
    rw [e]
    refine ⟨fun cur hcur => ?_, ?_⟩
    · rw [fb, if_pos rfl, if_neg hcur, fb_word _ _ _ hc, List.nil_append, h1 w hw]
    · rw [fb, if_pos rfl, if_pos rfl, fb_word _ _ _ hc, List.nil_append, h1 w hw]
theorem fieldsB_line (L : List Wd) (h : ∀ w ∈ L, isWord w = true) : fieldsB (lineB L) = L :=
  (fb_line L (fun w hw => ⟨(isWord_ne (h w hw)).1, fun c hc => ((isWord_ne (h w hw)).2 c hc).1⟩)).2

theorem sb_ne (l : Wd) : sb l ≠ [] := by
  cases l with
  | nil => simp [sb]
  | cons c r =>
    unfold sb
    split
    · simp
    · split <;> simp
theorem sb_plain : ∀ (x r : Wd), (∀ c ∈ x, c ≠ 10) → sb (x ++ r) = match sb r with | [] => [x] | y :: t => (x ++ y) :: t
  | [], r, _ => by
    have := sb_ne r
    cases h : sb r with
    | nil => exact absurd h this
    | cons y t => simp [h]
  | c :: x, r, h => by
    have hc : c ≠ 10 := h c (by simp)
    have ih := sb_plain x r (fun d hd => h d (by simp [hd]))
    have hne := sb_ne r
    rw [List.cons_append, sb, if_neg hc, ih]
    cases hr : sb r with
    | nil => exact absurd hr hne
    | cons y t => simp
theorem sb_end (x r : Wd) (h : ∀ c ∈ x, c ≠ 10) : sb (x ++ 10 :: r) = x :: sb r := by
  rw [sb_plain x _ h, sb, if_pos rfl]; simp
theorem sb_only (x : Wd) (h : ∀ c ∈ x, c ≠ 10) : sb x = [x] := by
  have := sb_plain x [] h
  simpa [sb] using this

theorem lineB_ten (L : List Wd) (h : ∀ w ∈ L, isWord w = true) : ∀ c ∈ lineB L, c ≠ 10 := by
  intro c hc
  simp only [lineB, List.mem_flatMap, List.mem_cons] at hc
  obtain ⟨w, hw, rfl | hc⟩ := hc
  · decide
  · exact ((isWord_ne (h w hw)).2 c hc).2
theorem backB_cons (L M : List Wd) (r : List (List Wd)) : backB (L :: M :: r) = lineB L ++ 10 :: backB (M :: r) := by
  simp [backB, toks, lineB, tokB, List.flatMap_append, List.flatMap_map]
theorem backB_one (L : List Wd) : backB [L] = lineB L := by simp [backB, toks, lineB, tokB, List.flatMap_map]
theorem sb_back : ∀ (ls : List (List Wd)), ls ≠ [] → (∀ L ∈ ls, ∀ w ∈ L, isWord w = true) → sb (backB ls) = ls.map lineB ∧ sb (backB ls ++ [10]) = ls.map lineB ++ [[]]
  | [], h, _ => absurd rfl h
  | [L], _, h => by
    have ht := lineB_ten L (h L (by simp))
    rw [backB_one, sb_only _ ht, sb_end _ _ ht]
    simp [sb]
  | L :: M :: r, _, h => by
    obtain ⟨h1, h2⟩ := sb_back (M :: r) (by simp) (fun K hK => h K (by simp [hK]))
    have ht := lineB_ten L (h L (by simp))
    rw [backB_cons, sb_end _ _ ht, h1, List.append_assoc, List.cons_append, sb_end _ _ ht, h2]
    simp
theorem map_fields (ls : List (List Wd)) (h : ∀ L ∈ ls, ∀ w ∈ L, isWord w = true) : (ls.map lineB).map fieldsB = ls := by
  rw [List.map_map]
  conv => rhs; rw [← List.map_id ls]
  exact List.map_congr_left fun L hL => fieldsB_line L (h L hL)
/-- the text written again, cut again: the same lines; and, with its last line's end, one empty line more -/
theorem cut_back (ls : List (List Wd)) (h0 : ls ≠ []) (h : ∀ L ∈ ls, ∀ w ∈ L, isWord w = true) : cutB (backB ls) = ls ∧ cutB (backB ls ++ [10]) = ls ++ [[]] := by
  obtain ⟨h1, h2⟩ := sb_back ls h0 h
  unfold cutB
  rw [h1, h2, List.map_append, map_fields ls h]
  exact ⟨rfl, rfl⟩
theorem cutB_ne (l : Wd) : cutB l ≠ [] := by
  unfold cutB
  intro h
  exact sb_ne l (List.map_eq_nil_iff.1 h)
theorem sb_length : ∀ l : Wd, (sb l).length ≤ l.length + 1
  | [] => by simp [sb]
  | c :: r => by
    have ih := sb_length r
    unfold sb
    split
    · simp; omega
    · cases h : sb r with
      | nil => simp
      | cons x t => rw [h] at ih; simp at ih ⊢; omega

/-- without the last line's end -/
def trimB (l : Wd) : Wd := Lib.trimSuffix l [10]
theorem trimB_ten (l : Wd) : trimB (l ++ [10]) = l := by
  unfold trimB Lib.trimSuffix Lib.hasSuffix
  rw [if_pos (by rw [List.isSuffixOf_iff_suffix]; exact List.suffix_append _ _)]
  simp
theorem trimB_length (l : Wd) : (trimB l).length ≤ l.length := by
  unfold trimB Lib.trimSuffix
  split
  · rw [List.length_take]; omega
  · exact Nat.le_refl _

/-- how the library splits, at a sep of one byte -/
theorem splitK_sb : ∀ (k : Nat) (l : Wd), Lib.count l [10] = k → Lib.splitK [10] 0 k l = sb l
  | k, [], hk => by
    rw [Lib.count_one] at hk
    simp at hk; subst hk; rfl
  | k, c :: r, hk => by
    by_cases hc : c = 10
    · subst hc
      rw [Lib.count_cons_eq] at hk
      obtain ⟨j, rfl⟩ : ∃ j, k = j + 1 := ⟨k - 1, by omega⟩
      have hix : Lib.index (10 :: r) [10] = 0 := by rw [Lib.index]; simp [List.isPrefixOf]
      rw [Lib.splitK, hix, sb, if_pos rfl]
      simp
      exact splitK_sb j r (by omega)
    · rw [Lib.count_cons_ne _ _ _ hc] at hk
      have ih := splitK_sb k r hk
      have hp : ([10] : List UInt8).isPrefixOf (c :: r) = false := by simp [List.isPrefixOf, Ne.symm hc]
      have hix : Lib.index (c :: r) [10] = if Lib.index r [10] == -1 then -1 else Lib.index r [10] + 1 := by rw [Lib.index, hp]; simp
      rw [sb, if_neg hc, ← ih]
      cases k with
      | zero => rfl
      | succ k =>
        by_cases hm : Lib.index r [10] = -1
        · rw [Lib.splitK, hix, Lib.splitK, hm]; simp
        · have hge := Lib.index_ge r [10]
          obtain ⟨j, hj⟩ : ∃ j : Nat, Lib.index r [10] = j := ⟨(Lib.index r [10]).toNat, by omega⟩
          have hne : ¬ ((j : Int) = -1) := by omega
          have hne2 : ¬ ((j : Int) + 1 = -1) := by omega
          have e1 : ((j : Int) + 1).toNat = j + 1 := by omega
          rw [Lib.splitK, hix, Lib.splitK, hj]
          simp [hne, hne2, e1]

end Tx
end Go.Proofs.YtoeemehdkejhfaaDoor
