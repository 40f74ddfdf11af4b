import Derived.Lib.FieldsP
import Derived.Lib.SplitLaws
import Derived.Lib.SlicesCompact
import Derived.Shelf.GgClosure.StringsIndexFunc
import Derived.Shelf.Spec.SearchS
import Derived.Sort.Walk0
/- Texts as numbers, plain: bytes cut into lines and words, words' numbers line by line, and what they are again as a text. No program is named here. -/
namespace Go.Proofs.YtoejenejleocdabGreatDoor
namespace Tx

/-- a word, a text: bytes -/
abbrev Wd := List UInt8

/-- what stands between spaces; cur: the word that has begun -/
def fb : Wd → Wd → List Wd
  | cur, [] => if cur = [] then [] else [cur]
  | cur, c :: r => if c = 32 then (if cur = [] then fb [] r else cur :: fb [] r) else fb (cur ++ [c]) r
def fieldsB (l : Wd) : List Wd := fb [] l

/-- what stands between ends of lines -/
def sb : Wd → List Wd
  | [] => [[]]
  | c :: r => if c = 10 then [] :: sb r else match sb r with
    | [] => [[c]]
    | x :: t => (c :: x) :: t
def cutB (l : Wd) : List (List Wd) := (sb l).map fieldsB

/-- words line by line, none between two lines -/
def toks : List (List Wd) → List (Option Wd)
  | [] => []
  | [L] => L.map some
  | L :: M :: r => L.map some ++ none :: toks (M :: r)

theorem toks_snoc : ∀ (ls : List (List Wd)) (L : List Wd), ls ≠ [] → toks (ls ++ [L]) = toks ls ++ none :: L.map some
  | [], _, h => absurd rfl h
  | [K], L, _ => rfl
  | K :: M :: r, L, _ => by
    have ih := toks_snoc (M :: r) L (by simp)
    simp only [List.cons_append] at ih
    simp [toks, ih]
theorem toks_one (L : List Wd) : toks [L] = L.map some := rfl
theorem toks_take (ls : List (List Wd)) (i : Nat) (hi : i < ls.length) : toks (ls.take (i + 1)) = toks (ls.take i) ++ (if i = 0 then [] else [none]) ++ (ls.getD i []).map some := by
  have e : ls.take (i + 1) = ls.take i ++ [ls.getD i []] := by
    rw [List.take_succ_eq_append_getElem hi, List.getD_eq_getElem?_getD, List.getElem?_eq_getElem hi]; rfl
  rw [e]
  by_cases h0 : i = 0
  · subst h0; simp [toks]
  · have hne : ls.take i ≠ [] := fun h => by have := congrArg List.length h; simp at this; rcases this with h | h; exact h0 h; rw [h] at hi; simp at hi
    rw [toks_snoc _ _ hne, if_neg h0]
    simp
theorem mem_toks : ∀ (ls : List (List Wd)) (w : Wd), some w ∈ toks ls ↔ ∃ L ∈ ls, w ∈ L
  | [], w => by simp [toks]
  | [L], w => by simp [toks]
  | L :: M :: r, w => by
    have ih := mem_toks (M :: r) w
    simp only [toks, List.mem_append, List.mem_map, Option.some.injEq, exists_eq_right, List.mem_cons, reduceCtorEq, false_or, ih]
    constructor
    · rintro (h | ⟨K, h1, h2⟩)
      · exact ⟨L, .inl rfl, h⟩
      · exact ⟨K, .inr h1, h2⟩
    · rintro ⟨K, rfl | h1, h2⟩
      · exact .inl h2
      · exact .inr ⟨K, h1, h2⟩
theorem toks_length : ∀ (ls : List (List Wd)), (toks ls).length ≤ ls.flatten.length + ls.length
  | [] => by simp [toks]
  | [L] => by simp [toks]
  | L :: M :: r => by
    have ih := toks_length (M :: r)
    simp only [toks, List.length_append, List.length_map, List.length_cons, List.flatten_cons] at ih ⊢
    omega

/-- the number of a word, or of a line's end, by a search -/
def numB (find : Wd → Option Nat) : Option Wd → Int
  | none => 1
  | some w => (((find w).getD 0 + 2 : Nat) : Int)
def nums (find : Wd → Option Nat) (ts : List (Option Wd)) : List Int := ts.map (numB find)
def allIn (find : Wd → Option Nat) (ls : List (List Wd)) : Bool := ls.all fun L => L.all fun w => (find w).isSome

/-- letters, and words that have the form -/
def letter (c : UInt8) : Bool := decide (97 ≤ c.toNat ∧ c.toNat ≤ 122)
def isWord (w : Wd) : Bool := decide (1 ≤ w.length ∧ w.length ≤ 8) && w.all letter

theorem letter_ne (c : UInt8) (h : letter c = true) : c ≠ 32 ∧ c ≠ 10 := by
  unfold letter at h
  have h' := of_decide_eq_true h
  constructor <;> (rintro rfl; revert h'; decide)
theorem isWord_ne {w : Wd} (h : isWord w = true) : w ≠ [] ∧ ∀ c ∈ w, c ≠ 32 ∧ c ≠ 10 := by
  simp only [isWord, Bool.and_eq_true, decide_eq_true_eq, List.all_eq_true] at h
  exact ⟨fun e => by subst e; simp at h, fun c hc => letter_ne c (h.2 c hc)⟩

theorem fb_word : ∀ (w cur r : Wd), (∀ c ∈ w, c ≠ 32) → fb cur (w ++ r) = fb (cur ++ w) r
  | [], cur, r, _ => by simp
  | c :: w, cur, r, h => by
    have hc : c ≠ 32 := h c (by simp)
    rw [List.cons_append, fb, if_neg hc, fb_word w _ r (fun d hd => h d (by simp [hd]))]
    simp
theorem sb_ne (l : Wd) : sb l ≠ [] := by
  cases l with
  | nil => simp [sb]
  | cons c r =>
    unfold sb
    split
    · simp
    · split <;> simp
theorem sb_plain : ∀ (x r : Wd), (∀ c ∈ x, c ≠ 10) → sb (x ++ r) = match sb r with | [] => [x] | y :: t => (x ++ y) :: t
  | [], r, _ => by
    have := sb_ne r
    cases h : sb r with
    | nil => exact absurd h this
    | cons y t => simp [h]
  | c :: x, r, h => by
    have hc : c ≠ 10 := h c (by simp)
    have ih := sb_plain x r (fun d hd => h d (by simp [hd]))
    have hne := sb_ne r
    rw [List.cons_append, sb, if_neg hc, ih]
    cases hr : sb r with
    | nil => exact absurd hr hne
    | cons y t => simp
theorem sb_end (x r : Wd) (h : ∀ c ∈ x, c ≠ 10) : sb (x ++ 10 :: r) = x :: sb r := by
  rw [sb_plain x _ h, sb, if_pos rfl]; simp
theorem sb_only (x : Wd) (h : ∀ c ∈ x, c ≠ 10) : sb x = [x] := by
  have := sb_plain x [] h
  simpa [sb] using this

theorem cutB_ne (l : Wd) : cutB l ≠ [] := by
  unfold cutB
  intro h
  exact sb_ne l (List.map_eq_nil_iff.1 h)
theorem sb_length : ∀ l : Wd, (sb l).length ≤ l.length + 1
  | [] => by simp [sb]
  | c :: r => by
    have ih := sb_length r
    unfold sb
    split
    · simp; omega
    · cases h : sb r with
      | nil => simp
      | cons x t => rw [h] at ih; simp at ih ⊢; omega

/-- without the last line's end -/
def trimB (l : Wd) : Wd := Lib.trimSuffix l [10]
theorem trimB_length (l : Wd) : (trimB l).length ≤ l.length := by
  unfold trimB Lib.trimSuffix
  split
  · rw [List.length_take]; omega
  · exact Nat.le_refl _

/-- how the library splits, at a sep of one byte -/
theorem splitK_sb : ∀ (k : Nat) (l : Wd), Lib.count l [10] = k → Lib.splitK [10] 0 k l = sb l
  | k, [], hk => by
    rw [Lib.count_one] at hk
    simp at hk; subst hk; rfl
  | k, c :: r, hk => by
    by_cases hc : c = 10
    · subst hc
      rw [Lib.count_cons_eq] at hk
      obtain ⟨j, rfl⟩ : ∃ j, k = j + 1 := ⟨k - 1, by omega⟩
      have hix : Lib.index (10 :: r) [10] = 0 := by rw [Lib.index]; simp [List.isPrefixOf]
      rw [Lib.splitK, hix, sb, if_pos rfl]
      simp
      exact splitK_sb j r (by omega)
    · rw [Lib.count_cons_ne _ _ _ hc] at hk
      have ih := splitK_sb k r hk
      have hp : ([10] : List UInt8).isPrefixOf (c :: r) = false := by simp [List.isPrefixOf, Ne.symm hc]
      have hix : Lib.index (c :: r) [10] = if Lib.index r [10] == -1 then -1 else Lib.index r [10] + 1 := by rw [Lib.index, hp]; simp
      rw [sb, if_neg hc, ← ih]
      cases k with
      | zero => rfl
      | succ k =>
        by_cases hm : Lib.index r [10] = -1
        · rw [Lib.splitK, hix, Lib.splitK, hm]; simp
        · have hge := Lib.index_ge r [10]
          obtain ⟨j, hj⟩ : ∃ j : Nat, Lib.index r [10] = j := ⟨(Lib.index r [10]).toNat, by omega⟩
          have hne : ¬ ((j : Int) = -1) := by omega
          have hne2 : ¬ ((j : Int) + 1 = -1) := by omega
          have e1 : ((j : Int) + 1).toNat = j + 1 := by omega
          rw [Lib.splitK, hix, Lib.splitK, hj]
          simp [hne, hne2, e1]

end Tx
end Go.Proofs.YtoejenejleocdabGreatDoor

/- The library's cutting by a function of runes, where that function knows one byte below 128 alone: it cuts at that byte. No program is named here. -/
namespace Go.Proofs.YtoejenejleocdabGreatDoor
namespace Tx
open Go.Lib

/-- a rune of one byte is that byte; of a greater first byte it is 128 at least, and all its bytes are -/
theorem decodeN_big (n b0 b1 b2 b3 : Nat) (h : 128 ≤ b0) : 128 ≤ (decodeN n b0 b1 b2 b3).1 ∧ (2 ≤ (decodeN n b0 b1 b2 b3).2 → 128 ≤ b1) ∧ (3 ≤ (decodeN n b0 b1 b2 b3).2 → 128 ≤ b2) ∧ (4 ≤ (decodeN n b0 b1 b2 b3).2 → 128 ≤ b3) ∧ (decodeN n b0 b1 b2 b3).2 ≤ 4 := by
  unfold decodeN
  repeat' split
  all_goals (simp only; omega)

theorem get_at (s : ByteArray) (i : Nat) (h : i < s.size) : s.data.toList[i]? = some (s.get! i) := by
  rw [List.getElem?_eq_getElem (by rw [← size_eq]; exact h)]
  obtain ⟨a⟩ := s
  simp only [ByteArray.get!, Option.some.injEq]
  rw [getElem!_pos a i (by simpa [ByteArray.size] using h)]
  simp

theorem decode_is (s : ByteArray) (pos : Nat) :
    ((s.get! pos).toNat < 128 → Utf8.decode s pos = ((s.get! pos).toNat, 1)) ∧
    (128 ≤ (s.get! pos).toNat → 128 ≤ (Utf8.decode s pos).1 ∧ ∀ j, j < (Utf8.decode s pos).2 → 128 ≤ (s.get! (pos + j)).toNat) := by
  rw [decode_at]
  refine ⟨fun hb => decodeN_ascii _ _ _ _ _ hb, fun hb => ?_⟩
  obtain ⟨h1, h2, h3, h4, h5⟩ := decodeN_big (s.size - pos) (s.get! pos).toNat (s.get! (pos + 1)).toNat (s.get! (pos + 2)).toNat (s.get! (pos + 3)).toNat hb
  refine ⟨h1, fun j hj => ?_⟩
  match j, hj with
  | 0, _ => exact hb
  | 1, hj => exact h2 (by omega)
  | 2, hj => exact h3 (by omega)
  | 3, hj => exact h4 (by omega)
  | j + 4, hj => omega
theorem decode_room (s : ByteArray) (pos : Nat) (h : pos < s.size) : 1 ≤ (Utf8.decode s pos).2 ∧ pos + (Utf8.decode s pos).2 ≤ s.size := by
  have hw := width_pos s pos
  have := decodeN_le_n' (s.size - pos) (s.get! pos).toNat (s.get! (pos + 1)).toNat (s.get! (pos + 2)).toNat (s.get! (pos + 3)).toNat (by omega)
  rw [← decode_at] at this
  omega

/-- the rune is the space -/
def isSp (r : Nat) : Bool := decide (r = 32)

theorem take_no32 (s : ByteArray) (pos : Nat) (h : pos < s.size) (hsp : isSp (Utf8.decode s pos).1 = false) : ∀ c ∈ (s.data.toList.drop pos).take (Utf8.decode s pos).2, c ≠ 32 := by
  intro c hc he
  subst he
  obtain ⟨i, hi, hci⟩ := List.getElem_of_mem hc
  rw [List.length_take, List.length_drop, ← size_eq] at hi
  have hin : i < (Utf8.decode s pos).2 := by omega
  have hg := get_at s (pos + i) (by omega)
  have e : s.data.toList[pos + i]? = some 32 := by
    rw [← hci]
    rw [List.getElem_take, List.getElem_drop, List.getElem?_eq_getElem]
  rw [hg] at e
  injection e with e
  obtain ⟨d1, d2⟩ := decode_is s pos
  by_cases hb : (s.get! pos).toNat < 128
  · have hd := d1 hb
    rw [hd] at hin hsp
    have : i = 0 := by simp at hin; exact hin
    subst this
    rw [Nat.add_zero] at e
    rw [e] at hsp
    exact absurd hsp (by decide)
  · have := (d2 (by omega)).2 i hin
    rw [e] at this
    exact absurd this (by decide)
theorem drop_32 (s : ByteArray) (pos : Nat) (h : pos < s.size) (hsp : isSp (Utf8.decode s pos).1 = true) : s.data.toList.drop pos = 32 :: s.data.toList.drop (pos + (Utf8.decode s pos).2) := by
  obtain ⟨d1, d2⟩ := decode_is s pos
  have hr : (Utf8.decode s pos).1 = 32 := of_decide_eq_true hsp
  by_cases hb : (s.get! pos).toNat < 128
  · have hd := d1 hb
    rw [hd] at hr
    simp only at hr
    rw [hd]
    have hlt : pos < s.data.toList.length := by rw [← size_eq]; exact h
    rw [List.drop_eq_getElem_cons hlt]
    have hg := get_at s pos h
    rw [List.getElem?_eq_getElem hlt] at hg
    injection hg with hg
    rw [hg]
    congr 1
    exact UInt8.toNat_inj.1 (by rw [hr]; rfl)
  · have := (d2 (by omega)).1
    omega
theorem fb_nil (cur : Wd) : fb cur [] = if cur = [] then [] else [cur] := by cases cur <;> rfl

theorem spansP_fb (s : ByteArray) : ∀ (f pos : Nat) (st : Option Nat) (acc : List (Nat × Nat)), s.size ≤ pos + f → pos ≤ s.size → (∀ a, st = some a → a < pos) →
    (closeSpans s (spansFromP isSp s f pos st acc)).map (fun p => pieceU s.data.toList p.1 p.2) = acc.map (fun p => pieceU s.data.toList p.1 p.2) ++ fb (openPiece s.data.toList st pos) (s.data.toList.drop pos)
  | 0, pos, st, acc, h, hp, hst => by
    obtain rfl : pos = s.size := by omega
    have hd : s.data.toList.drop s.size = [] := List.drop_eq_nil_of_le (by rw [← size_eq]; exact Nat.le_refl _)
    rw [hd, fb_nil]
    cases st with
    | none => simp [spansFromP, closeSpans, openPiece]
    | some a =>
      have := pieceU_ne s.data.toList a s.size (hst a rfl) (by rw [← size_eq]; exact Nat.le_refl _)
      simp [spansFromP, closeSpans, openPiece, this]
  | f + 1, pos, st, acc, h, hp, hst => by
    by_cases hlt : pos < s.size
    · obtain ⟨hw, hwn⟩ := decode_room s pos hlt
      simp only [spansFromP, if_pos hlt]
      cases hsp : isSp (Utf8.decode s pos).1 with
      | true =>
        rw [drop_32 s pos hlt hsp]
        simp only [if_true, fb]
        cases st with
        | none =>
          have ih := spansP_fb s f (pos + (Utf8.decode s pos).2) none acc (by omega) hwn (fun a h => by cases h)
          simpa [openPiece] using ih
        | some a =>
          have hpn := pieceU_ne s.data.toList a pos (hst a rfl) (by rw [← size_eq]; omega)
          have ih := spansP_fb s f (pos + (Utf8.decode s pos).2) none (acc ++ [(a, pos)]) (by omega) hwn (fun a h => by cases h)
          simpa [openPiece, hpn] using ih
      | false =>
        have hno := take_no32 s pos hlt hsp
        have hdr : s.data.toList.drop pos = (s.data.toList.drop pos).take (Utf8.decode s pos).2 ++ s.data.toList.drop (pos + (Utf8.decode s pos).2) := by
          rw [← List.drop_drop, List.take_append_drop]
        simp only [Bool.false_eq_true, if_false]
        rw [hdr, fb_word _ _ _ hno]
        cases st with
        | none =>
          have ih := spansP_fb s f (pos + (Utf8.decode s pos).2) (some pos) acc (by omega) hwn (fun a h => by cases h; omega)
          have e : ([] : List UInt8) ++ (s.data.toList.drop pos).take (Utf8.decode s pos).2 = pieceU s.data.toList pos (pos + (Utf8.decode s pos).2) := by
            unfold pieceU
            rw [List.nil_append, Nat.add_sub_cancel_left]
          simp only [openPiece] at ih ⊢
          rw [e]
          exact ih
        | some a =>
          have ih := spansP_fb s f (pos + (Utf8.decode s pos).2) (some a) acc (by omega) hwn (fun b h => by cases h; have := hst a rfl; omega)
          simp only [openPiece] at ih ⊢
          rw [pieceU_grow _ _ _ _ (Nat.le_of_lt (hst a rfl))]
          exact ih
    · obtain rfl : pos = s.size := by omega
      have hd : s.data.toList.drop s.size = [] := List.drop_eq_nil_of_le (by rw [← size_eq]; exact Nat.le_refl _)
      rw [hd, fb_nil, spansFromP_end isSp s _ _ _ _ hlt]
      cases st with
      | none => simp [closeSpans, openPiece]
      | some a =>
        have := pieceU_ne s.data.toList a s.size (hst a rfl) (by rw [← size_eq]; exact Nat.le_refl _)
        simp [closeSpans, openPiece, this]

/-- cut by the function 'is it a space': what stands between spaces -/
theorem goFields_fb (s : ByteArray) : (goFieldsP isSp s).map (·.data.toList) = fieldsB s.data.toList := by
  have h := spansP_fb s s.size 0 none [] (by omega) (Nat.zero_le _) (fun a h => by cases h)
  simp only [List.map_nil, List.nil_append, openPiece, List.drop_zero] at h
  unfold fieldsB goFieldsP spansOfP
  rw [← h, List.map_map]
  congr 1
  funext p
  simp [pieceU]

theorem fb_length : ∀ (l cur : Wd), (fb cur l).length ≤ l.length + 1
  | [], cur => by rw [fb_nil]; split <;> simp
  | c :: r, cur => by
    have h1 := fb_length r []
    have h2 := fb_length r (cur ++ [c])
    unfold fb
    split
    · split <;> simp <;> omega
    · simp; omega

end Tx
end Go.Proofs.YtoejenejleocdabGreatDoor

/- Words sorted, each once. No program is named here. -/
namespace Go.Proofs.YtoejenejleocdabGreatDoor
namespace Tx

theorem wd_le_trans {a b c : Wd} (h1 : a ≤ b) (h2 : b ≤ c) : a ≤ c := List.le_trans h1 h2
theorem wd_lt_of {a b : Wd} (h1 : a ≤ b) (h2 : a ≠ b) : a < b := by
  by_cases h : a < b
  · exact h
  · exact absurd (List.le_antisymm h1 (List.not_lt.1 h)) h2
theorem wd_lt_of_le_of_lt {a b c : Wd} (h1 : a ≤ b) (h2 : b < c) : a < c := List.lt_of_le_of_lt h1 h2
theorem wd_le_of_lt {a b : Wd} (h : a < b) : a ≤ b := List.le_of_lt h

/-- the words, by order, each once -/
def wordsOf (all : List Wd) : List Wd := Lib.compact (all.mergeSort fun x y => decide (x ≤ y))

theorem sorted_ms (all : List Wd) : (all.mergeSort fun x y => decide (x ≤ y)).Pairwise (· ≤ ·) := by
  have h := List.pairwise_mergeSort (le := fun (x y : Wd) => decide (x ≤ y)) (fun a b c h1 h2 => by simp only [decide_eq_true_eq] at *; exact List.le_trans h1 h2) (fun a b => by simp only [Bool.or_eq_true, decide_eq_true_eq]; exact List.le_total a b) all
  exact h.imp fun h => by simpa using h

theorem compact_sorted (zs : List Wd) (hs : zs.Pairwise (· ≤ ·)) : ∀ m, m ≤ zs.length →
    (Lib.compactUpTo zs.toArray m).Pairwise (· < ·) ∧ (∀ x, x ∈ Lib.compactUpTo zs.toArray m ↔ ∃ j, j < m ∧ zs[j]? = some x) ∧ (∀ x ∈ Lib.compactUpTo zs.toArray m, ∀ y, zs[m - 1]? = some y → x ≤ y)
  | 0, _ => by simp [Lib.compactUpTo]
  | m + 1, hm => by
    obtain ⟨h1, h2, h3⟩ := compact_sorted zs hs m (by omega)
    have hm' : m < zs.length := by omega
    have hget : zs.toArray[m]! = zs[m] := by simp [hm']
    have hle : ∀ i (hi : i < m), zs[i] ≤ zs[m] := fun i hi => (List.pairwise_iff_getElem.1 hs) i m (by omega) hm' hi
    rw [Lib.compactUpTo_succ, hget, Nat.add_sub_cancel]
    have hlast : ∀ y, zs[m]? = some y → y = zs[m] := fun y hy => by rw [List.getElem?_eq_getElem hm'] at hy; injection hy with hy; exact hy.symm
    by_cases hk : Lib.keeps zs.toArray m = true
    · rw [if_pos hk]
      have hnew : ∀ x ∈ Lib.compactUpTo zs.toArray m, x < zs[m] := by
        intro x hx
        obtain ⟨j, hj, hjx⟩ := (h2 x).1 hx
        have hm0 : 0 < m := by omega
        have hx' := h3 x hx zs[m - 1] (List.getElem?_eq_getElem (by omega))
        have hne : zs[m] ≠ zs[m - 1] := by
          simp only [Lib.keeps, decide_eq_true_eq] at hk
          rcases hk with hk | hk
          · omega
          · intro e
            apply hk
            simp [hm', show m - 1 < zs.length by omega, e]
        exact wd_lt_of_le_of_lt hx' (wd_lt_of (hle (m - 1) (by omega)) (fun e => hne e.symm))
      refine ⟨?_, ?_, ?_⟩
      · rw [List.pairwise_append]
        exact ⟨h1, by simp, fun a ha b hb => by simp at hb; subst hb; exact hnew a ha⟩
      · intro x
        simp only [List.mem_append, List.mem_singleton, h2]
        constructor
        · rintro (⟨j, hj, e⟩ | rfl)
          · exact ⟨j, by omega, e⟩
          · exact ⟨m, by omega, List.getElem?_eq_getElem hm'⟩
        · rintro ⟨j, hj, e⟩
          by_cases hjm : j = m
          · subst hjm; exact .inr (hlast x e)
          · exact .inl ⟨j, by omega, e⟩
      · intro x hx y hy
        rw [hlast y hy]
        simp only [List.mem_append, List.mem_singleton] at hx
        rcases hx with hx | rfl
        · exact wd_le_of_lt (hnew x hx)
        · exact List.le_refl _
    · rw [if_neg hk, List.append_nil]
      have hm0 : m ≠ 0 := fun e => hk (by simp [Lib.keeps, e])
      have heq : zs[m] = zs[m - 1] := by
        simp only [Lib.keeps, decide_eq_true_eq, not_or, Decidable.not_not] at hk
        have := hk.2
        simpa [hm', show m - 1 < zs.length by omega] using this
      refine ⟨h1, ?_, ?_⟩
      · intro x
        rw [h2]
        constructor
        · rintro ⟨j, hj, e⟩
          exact ⟨j, by omega, e⟩
        · rintro ⟨j, hj, e⟩
          by_cases hjm : j = m
          · subst hjm
            refine ⟨j - 1, by omega, ?_⟩
            rw [hlast x e, heq]
            exact List.getElem?_eq_getElem (by omega)
          · exact ⟨j, by omega, e⟩
      · intro x hx y hy
        rw [hlast y hy, heq]
        exact h3 x hx _ (List.getElem?_eq_getElem (by omega))

theorem wordsOf_rising (all : List Wd) : (wordsOf all).Pairwise (· < ·) := (compact_sorted _ (sorted_ms all) _ (Nat.le_refl _)).1
theorem mem_wordsOf (all : List Wd) (x : Wd) : x ∈ wordsOf all ↔ x ∈ all := by
  have h := (compact_sorted _ (sorted_ms all) _ (Nat.le_refl _)).2.1 x
  unfold wordsOf Lib.compact
  rw [h, ← List.mem_mergeSort (le := fun (x y : Wd) => decide (x ≤ y)) (a := x) (l := all), List.mem_iff_getElem?]
  constructor
  · rintro ⟨j, _, e⟩; exact ⟨j, e⟩
  · rintro ⟨j, e⟩; exact ⟨j, (List.getElem?_eq_some_iff.1 e).1, e⟩
theorem wordsOf_length (all : List Wd) : (wordsOf all).length ≤ all.length := by
  unfold wordsOf Lib.compact Lib.compactUpTo
  rw [List.length_map]
  exact Nat.le_trans (List.length_filter_le _ _) (by rw [List.length_range]; exact Nat.le_of_eq (List.length_mergeSort all))

/-- two such lists with the same words are one -/
theorem rising_eq {a b : List Wd} (ha : a.Pairwise (· < ·)) (hb : b.Pairwise (· < ·)) (h : ∀ x, x ∈ a ↔ x ∈ b) : a = b := by
  induction a generalizing b with
  | nil =>
    cases b with
    | nil => rfl
    | cons y t => exact absurd ((h y).2 (by simp)) (by simp)
  | cons x a ih =>
    cases b with
    | nil => exact absurd ((h x).1 (by simp)) (by simp)
    | cons y b =>
      rw [List.pairwise_cons] at ha hb
      have hxy : x = y := by
        have h1 := (h x).1 (by simp)
        have h2 := (h y).2 (by simp)
        rw [List.mem_cons] at h1 h2
        rcases h1 with h1 | h1
        · exact h1
        · rcases h2 with h2 | h2
          · exact h2.symm
          · exact absurd (List.lt_trans (ha.1 y h2) (hb.1 x h1)) (List.lt_irrefl x)
      subst hxy
      congr 1
      refine ih ha.2 hb.2 fun z => ?_
      have hz := h z
      simp only [List.mem_cons] at hz
      constructor
      · intro hza
        rcases hz.1 (.inr hza) with e | e
        · subst e; exact absurd (ha.1 z hza) (List.lt_irrefl z)
        · exact e
      · intro hzb
        rcases hz.2 (.inr hzb) with e | e
        · subst e; exact absurd (hb.1 z hzb) (List.lt_irrefl z)
        · exact e

end Tx
end Go.Proofs.YtoejenejleocdabGreatDoor

/- The form of words, as the library looks for a rune that is no letter. No program is named here. -/
namespace Go.Proofs.YtoejenejleocdabGreatDoor
namespace Tx
open Go.Lib

/-- the rune is no letter -/
def isNo (r : Nat) : Bool := decide (r < 97) || decide (122 < r)

theorem idx_no (s : ByteArray) : ∀ (f pos : Nat), s.size ≤ pos + f → (decide (0 ≤ idxFuncFrom isNo true s f pos) = !((s.data.toList.drop pos).all letter))
  | 0, pos, h => by
    rw [List.drop_eq_nil_of_le (by rw [← size_eq]; omega)]
    rfl
  | f + 1, pos, h => by
    unfold idxFuncFrom
    by_cases hlt : pos < s.size
    · rw [if_pos hlt]
      obtain ⟨d1, d2⟩ := decode_is s pos
      have hlt' : pos < s.data.toList.length := by rw [← size_eq]; exact hlt
      have hg := get_at s pos hlt
      rw [List.getElem?_eq_getElem hlt'] at hg
      injection hg with hg
      rw [List.drop_eq_getElem_cons hlt', hg, List.all_cons]
      by_cases hb : (s.get! pos).toNat < 128
      · rw [d1 hb]
        by_cases hl : letter (s.get! pos) = true
        · have hn : isNo (s.get! pos).toNat = false := by
            have := of_decide_eq_true hl
            unfold isNo; simp; omega
          simp only [hn, hl, Bool.true_and, Bool.false_eq_true, if_false]
          exact idx_no s f (pos + 1) (by omega)
        · have hn : isNo (s.get! pos).toNat = true := by
            have : ¬ (97 ≤ (s.get! pos).toNat ∧ (s.get! pos).toNat ≤ 122) := fun h => hl (decide_eq_true h)
            unfold isNo; simp; omega
          simp only [hn, if_true]
          simp [hl]
      · have h1 := (d2 (by omega)).1
        have hn : isNo (Utf8.decode s pos).1 = true := by unfold isNo; simp; omega
        have hl : letter (s.get! pos) = false := by unfold letter; simp; omega
        simp only [hn, if_true]
        simp [hl]
    · rw [if_neg hlt, List.drop_eq_nil_of_le (by rw [← size_eq]; omega)]
      rfl
theorem contains_no (s : ByteArray) : decide (0 ≤ idxFunc isNo true s) = !(s.data.toList.all letter) := by
  unfold idxFunc
  rw [idx_no s s.size 0 (by omega), List.drop_zero]

end Tx
end Go.Proofs.YtoejenejleocdabGreatDoor

/- The search by halves among words. No program is named here. -/
namespace Go.Proofs.YtoejenejleocdabGreatDoor
namespace Tx
open Go.Lib

theorem bsGo_in (less : Nat → Bool) (n k : Nat) (h1 : ∀ t, t < k → less t = true) (h2 : ∀ t, k ≤ t → t < n → less t = false) : ∀ (f lo hi : Nat), hi - lo ≤ f → lo ≤ k → k ≤ hi → hi ≤ n → bsGo less f lo hi = k
  | 0, lo, hi, hf, a, b, _ => by simp [bsGo]; omega
  | f + 1, lo, hi, hf, a, b, hn => by
    unfold bsGo
    by_cases h : lo < hi
    · rw [if_pos h]
      by_cases hm : (lo + hi) / 2 < k
      · rw [h1 _ hm, if_pos rfl]; exact bsGo_in less n k h1 h2 f _ _ (by omega) (by omega) b hn
      · rw [h2 _ (by omega) (by omega)]; exact bsGo_in less n k h1 h2 f _ _ (by omega) a (by omega) (by omega)
    · rw [if_neg h]; omega
/-- where the search ends -/
def bsAt (ws : List Wd) (w : Wd) : Nat := bsGo (fun t => decide (ws.getD t [] < w)) ws.length 0 ws.length
/-- the place of a word, by the search -/
def findIn (ws : List Wd) (w : Wd) : Option Nat := if bsAt ws w < ws.length ∧ ws.getD (bsAt ws w) [] = w then some (bsAt ws w) else none

theorem findIn_some {ws : List Wd} {w : Wd} {k : Nat} (h : findIn ws w = some k) : k < ws.length ∧ ws.getD k [] = w := by
  unfold findIn at h
  split at h
  · rename_i h1; injection h with h; subst h; exact h1
  · cases h
/-- among words that rise, each word is found at its place -/
theorem findIn_at {ws : List Wd} (hr : ws.Pairwise (· < ·)) {k : Nat} (hk : k < ws.length) : findIn ws (ws.getD k []) = some k := by
  have hg : ∀ t (ht : t < ws.length), ws.getD t [] = ws[t] := fun t ht => by rw [List.getD_eq_getElem?_getD, List.getElem?_eq_getElem ht]; rfl
  have hp := List.pairwise_iff_getElem.1 hr
  have he : bsAt ws (ws.getD k []) = k := by
    unfold bsAt
    refine bsGo_in _ ws.length k (fun t ht => ?_) (fun t h1 h2 => ?_) _ _ _ (by omega) (by omega) (by omega) (Nat.le_refl _)
    · rw [hg t (by omega), hg k hk]; exact decide_eq_true (hp t k (by omega) hk ht)
    · rw [hg t h2, hg k hk]
      refine decide_eq_false fun hlt => ?_
      by_cases e : t = k
      · subst e; exact List.lt_irrefl _ hlt
      · exact List.lt_irrefl _ (List.lt_trans hlt (hp k t hk h2 (by omega)))
  unfold findIn
  rw [he, if_pos ⟨hk, rfl⟩]
theorem findIn_mem {ws : List Wd} (hr : ws.Pairwise (· < ·)) {w : Wd} (h : w ∈ ws) : ∃ k, k < ws.length ∧ ws.getD k [] = w ∧ findIn ws w = some k := by
  obtain ⟨k, hk, e⟩ := List.getElem_of_mem h
  have hg : ws.getD k [] = w := by rw [List.getD_eq_getElem?_getD, List.getElem?_eq_getElem hk, ← e]; rfl
  exact ⟨k, hk, hg, by rw [← hg]; exact findIn_at hr hk⟩
theorem findIn_not {ws : List Wd} {w : Wd} (h : w ∉ ws) : findIn ws w = none := by
  unfold findIn
  rw [if_neg]
  rintro ⟨h1, h2⟩
  apply h
  rw [← h2, List.getD_eq_getElem?_getD, List.getElem?_eq_getElem h1]
  exact List.getElem_mem h1

/-- as the library says it -/
theorem bs_bytes (ws : List Wd) (w : Wd) : bsGo (fun t => Op.bytesLess ((⟨(ws.getD t []).toArray⟩ : ByteArray)).toList ((⟨w.toArray⟩ : ByteArray)).toList) ws.length 0 ws.length = bsAt ws w := by
  unfold bsAt
  congr 1
  funext t
  rw [bytesLess_eq, Lib.toList_data, Lib.toList_data]

end Tx
end Go.Proofs.YtoejenejleocdabGreatDoor

/- The book of lines of words, and what it is again as a text: plain. No program is named here. -/
namespace Go.Proofs.YtoejenejleocdabGreatDoor
namespace Tx

/-- lines, all words of which have the form -/
structure Formed (ls : List (List Wd)) : Prop where
  ne : ls ≠ []
  form : ∀ L ∈ ls, ∀ w ∈ L, isWord w = true
theorem formed_of {ls : List (List Wd)} (h0 : ls ≠ []) (h : ls.flatten.all isWord = true) : Formed ls := by
  refine ⟨h0, fun L hL w hw => ?_⟩
  rw [List.all_eq_true] at h
  exact h w (List.mem_flatten.2 ⟨L, hL, hw⟩)
theorem Formed.all {ls : List (List Wd)} (h : Formed ls) : ls.flatten.all isWord = true := by
  rw [List.all_eq_true]
  intro w hw
  obtain ⟨L, hL, hw⟩ := List.mem_flatten.1 hw
  exact h.form L hL w hw

/-- the book's words and text -/
def bw (ls : List (List Wd)) : List Wd := wordsOf ls.flatten
def bt (ls : List (List Wd)) : List Int := nums (findIn (bw ls)) (toks ls) ++ [1, 0]

theorem bw_rising (ls : List (List Wd)) : (bw ls).Pairwise (· < ·) := wordsOf_rising _
theorem mem_bw (ls : List (List Wd)) (w : Wd) : w ∈ bw ls ↔ ∃ L ∈ ls, w ∈ L := by
  unfold bw
  rw [mem_wordsOf, List.mem_flatten]
theorem bw_form {ls : List (List Wd)} (h : Formed ls) : (bw ls).all isWord = true := by
  rw [List.all_eq_true]
  intro w hw
  obtain ⟨L, hL, hw⟩ := (mem_bw ls w).1 hw
  exact h.form L hL w hw
theorem bw_length (ls : List (List Wd)) : (bw ls).length ≤ ls.flatten.length := wordsOf_length _
theorem bw_find (ls : List (List Wd)) {L : List Wd} (hL : L ∈ ls) {w : Wd} (hw : w ∈ L) : ∃ k, k < (bw ls).length ∧ (bw ls).getD k [] = w ∧ findIn (bw ls) w = some k :=
  findIn_mem (bw_rising ls) ((mem_bw ls w).2 ⟨L, hL, hw⟩)
theorem bw_allIn (ls : List (List Wd)) : allIn (findIn (bw ls)) ls = true := by
  unfold allIn
  rw [List.all_eq_true]
  intro L hL
  rw [List.all_eq_true]
  intro w hw
  obtain ⟨k, _, _, h⟩ := bw_find ls hL hw
  rw [h]; rfl
theorem bt_length (ls : List (List Wd)) : (bt ls).length = (toks ls).length + 2 := by simp [bt, nums]

/-- a token's number, and the token that a number stands for -/
theorem num_tok (ls : List (List Wd)) (t : Option Wd) (ht : t ∈ toks ls) :
    (t = none ∧ numB (findIn (bw ls)) t = 1) ∨ ∃ w k, t = some w ∧ k < (bw ls).length ∧ (bw ls).getD k [] = w ∧ numB (findIn (bw ls)) t = (k : Int) + 2 := by
  cases t with
  | none => exact .inl ⟨rfl, rfl⟩
  | some w =>
    obtain ⟨L, hL, hw⟩ := (mem_toks ls w).1 ht
    obtain ⟨k, h1, h2, h3⟩ := bw_find ls hL hw
    exact .inr ⟨w, k, rfl, h1, h2, by simp [numB, h3]⟩

theorem getD_mem {α : Type} (l : List α) (d : α) (i : Nat) (h : i < l.length) : l.getD i d ∈ l := by
  rw [List.getD_eq_getElem?_getD, List.getElem?_eq_getElem h]; exact List.getElem_mem h
theorem bt_at (ls : List (List Wd)) (i : Nat) (hi : i < (toks ls).length) : (bt ls).getD i 0 = numB (findIn (bw ls)) ((toks ls).getD i none) := by
  unfold bt nums
  simp only [List.getD_eq_getElem?_getD]
  rw [List.getElem?_append_left (by simpa using hi), List.getElem?_map, List.getElem?_eq_getElem hi]
  rfl
theorem bt_stop (ls : List (List Wd)) : (bt ls).getD (toks ls).length 0 = 1 := by
  unfold bt nums
  simp [List.getD_eq_getElem?_getD]
theorem bt_last (ls : List (List Wd)) : (bt ls).getD ((toks ls).length + 1) 0 = 0 := by
  unfold bt nums
  simp [List.getD_eq_getElem?_getD]
theorem bt_range (ls : List (List Wd)) (i : Nat) (hi : i < (toks ls).length) : 1 ≤ (bt ls).getD i 0 ∧ (bt ls).getD i 0 < (bw ls).length + 2 := by
  rw [bt_at ls i hi]
  rcases num_tok ls _ (getD_mem (toks ls) none i hi) with ⟨_, h⟩ | ⟨w, k, _, hk, _, h⟩
  · rw [h]; omega
  · rw [h]; omega
theorem bt_all (ls : List (List Wd)) (i : Nat) (hi : i < (bt ls).length) : 0 ≤ (bt ls).getD i 0 ∧ (bt ls).getD i 0 < (bw ls).length + 2 := by
  rw [bt_length] at hi
  by_cases h1 : i < (toks ls).length
  · have := bt_range ls i h1; omega
  · by_cases h2 : i = (toks ls).length
    · subst h2; rw [bt_stop]; omega
    · obtain rfl : i = (toks ls).length + 1 := by omega
      rw [bt_last]; omega
theorem bt_seen (ls : List (List Wd)) (j : Nat) (hj : j < (bw ls).length) : ((bt ls).take (bt ls).length).any (fun x => decide (x = (j : Int) + 2)) = true := by
  rw [List.take_length, List.any_eq_true]
  have hm := getD_mem (bw ls) [] j hj
  obtain ⟨L, hL, hw⟩ := (mem_bw ls _).1 hm
  have ht := (mem_toks ls _).2 ⟨L, hL, hw⟩
  refine ⟨numB (findIn (bw ls)) (some ((bw ls).getD j [])), ?_, ?_⟩
  · unfold bt nums
    exact List.mem_append_left _ (List.mem_map_of_mem ht)
  · have h := findIn_at (bw_rising ls) hj
    show decide ((((findIn (bw ls) ((bw ls).getD j [])).getD 0 + 2 : Nat) : Int) = (j : Int) + 2) = true
    rw [h]
    simp

/-- what Read answers: its error, and its lines -/
def linesOf (l : Wd) : List (List Wd) := cutB (trimB l)
def errB (l : Wd) : Int := if 400 < l.length then 2 else if (linesOf l).flatten.all isWord = false then 1 else if 100 < (linesOf l).flatten.length + (linesOf l).length then 2 else 0
theorem errB_ok {l : Wd} (h : errB l = 0) : l.length ≤ 400 ∧ Formed (linesOf l) ∧ (linesOf l).flatten.length + (linesOf l).length ≤ 100 := by
  unfold errB at h
  split at h
  · cases h
  · split at h
    · cases h
    · split at h
      · cases h
      · rename_i h1 h2 h3
        exact ⟨by omega, formed_of (cutB_ne _) (by simpa using h2), by omega⟩
end Tx
end Go.Proofs.YtoejenejleocdabGreatDoor
