/- The library's cutting by a function of runes, where that function knows one byte below 128 alone: it cuts at that byte. No program is named here. -/
import Derived.Test.YtoeemehdkejhfaaDoorTa
namespace Go.Proofs.YtoeemehdkejhfaaDoor
namespace Tx
open Go.Lib

/-- a rune of one byte is that byte; of a greater first byte it is 128 at least, and all its bytes are -/
theorem decodeN_big (n b0 b1 b2 b3 : Nat) (h : 128 ≤ b0) : 128 ≤ (decodeN n b0 b1 b2 b3).1 ∧ (2 ≤ (decodeN n b0 b1 b2 b3).2 → 128 ≤ b1) ∧ (3 ≤ (decodeN n b0 b1 b2 b3).2 → 128 ≤ b2) ∧ (4 ≤ (decodeN n b0 b1 b2 b3).2 → 128 ≤ b3) ∧ (decodeN n b0 b1 b2 b3).2 ≤ 4 := by
  unfold decodeN
  repeat' split
  all_goals (simp only; omega)

theorem get_at (s : ByteArray) (i : Nat) (h : i < s.size) : s.data.toList[i]? = some (s.get! i) := by
  rw [List.getElem?_eq_getElem (by rw [← size_eq]; exact h)]
  obtain ⟨a⟩ := s
  simp only [ByteArray.get!, Option.some.injEq]
  rw [getElem!_pos a i (by simpa [ByteArray.size] using h)]
  simp

theorem decode_is (s : ByteArray) (pos : Nat) :
    ((s.get! pos).toNat < 128 → Utf8.decode s pos = ((s.get! pos).toNat, 1)) ∧
    (128 ≤ (s.get! pos).toNat → 128 ≤ (Utf8.decode s pos).1 ∧ ∀ j, j < (Utf8.decode s pos).2 → 128 ≤ (s.get! (pos + j)).toNat) := by
  rw [decode_at]
  refine ⟨fun hb => decodeN_ascii _ _ _ _ _ hb, fun hb => ?_⟩
  obtain ⟨h1, h2, h3, h4, h5⟩ := decodeN_big (s.size - pos) (s.get! pos).toNat (s.get! (pos + 1)).toNat (s.get! (pos + 2)).toNat (s.get! (pos + 3)).toNat hb
  refine ⟨h1, fun j hj => ?_⟩
  match j, hj with
  | 0, _ => exact hb
  | 1, hj => exact h2 (by omega)
  | 2, hj => exact h3 (by omega)
  | 3, hj => exact h4 (by omega)
  | j + 4, hj => omega
theorem decode_room (s : ByteArray) (pos : Nat) (h : pos < s.size) : 1 ≤ (Utf8.decode s pos).2 ∧ pos + (Utf8.decode s pos).2 ≤ s.size := by
  have hw := width_pos s pos
  have := decodeN_le_n' (s.size - pos) (s.get! pos).toNat (s.get! (pos + 1)).toNat (s.get! (pos + 2)).toNat (s.get! (pos + 3)).toNat (by omega)
  rw [← decode_at] at this
  omega

/-- the rune is the space -/
def isSp (r : Nat) : Bool := decide (r = 32)

theorem take_no32 (s : ByteArray) (pos : Nat) (h : pos < s.size) (hsp : isSp (Utf8.decode s pos).1 = false) : ∀ c ∈ (s.data.toList.drop pos).take (Utf8.decode s pos).2, c ≠ 32 := by
  intro c hc he
  subst he
  obtain ⟨i, hi, hci⟩ := List.getElem_of_mem hc
  rw [List.length_take, List.length_drop, ← size_eq] at hi
  have hin : i < (Utf8.decode s pos).2 := by omega
  have hg := get_at s (pos + i) (by omega)
  have e : s.data.toList[pos + i]? = some 32 := by
    rw [← hci]
    rw [List.getElem_take, List.getElem_drop, List.getElem?_eq_getElem]
  rw [hg] at e
  injection e with e
  obtain ⟨d1, d2⟩ := decode_is s pos
  by_cases hb : (s.get! pos).toNat < 128
  · have hd := d1 hb
    rw [hd] at hin hsp
    have : i = 0 := by simp at hin; exact hin
    subst this
    rw [Nat.add_zero] at e
    rw [e] at hsp
    exact absurd hsp (by decide)
  · have := (d2 (by omega)).2 i hin
    rw [e] at this
    exact absurd this (by decide)
theorem drop_32 (s : ByteArray) (pos : Nat) (h : pos < s.size) (hsp : isSp (Utf8.decode s pos).1 = true) : s.data.toList.drop pos = 32 :: s.data.toList.drop (pos + (Utf8.decode s pos).2) := by
  obtain ⟨d1, d2⟩ := decode_is s pos
  have hr : (Utf8.decode s pos).1 = 32 := of_decide_eq_true hsp
  by_cases hb : (s.get! pos).toNat < 128
  · have hd := d1 hb
    rw [hd] at hr
    simp only at hr
    rw [hd]
    have hlt : pos < s.data.toList.length := by rw [← size_eq]; exact h
    rw [List.drop_eq_getElem_cons hlt]
    have hg := get_at s pos h
    rw [List.getElem?_eq_getElem hlt] at hg
    injection hg with hg
    rw [hg]
    congr 1
    exact UInt8.toNat_inj.1 (by rw [hr]; rfl)
  · have := (d2 (by omega)).1
    omega
theorem fb_nil (cur : Wd) : fb cur [] = if cur = [] then [] else [cur] := by cases cur <;> rfl

theorem spansP_fb (s : ByteArray) : ∀ (f pos : Nat) (st : Option Nat) (acc : List (Nat × Nat)), s.size ≤ pos + f → pos ≤ s.size → (∀ a, st = some a → a < pos) →
    (closeSpans s (spansFromP isSp s f pos st acc)).map (fun p => pieceU s.data.toList p.1 p.2) = acc.map (fun p => pieceU s.data.toList p.1 p.2) ++ fb (openPiece s.data.toList st pos) (s.data.toList.drop pos)
  | 0, pos, st, acc, h, hp, hst => by
    obtain rfl : pos = s.size := by omega
    have hd : s.data.toList.drop s.size = [] := List.drop_eq_nil_of_le (by rw [← size_eq]; exact Nat.le_refl _)
    rw [hd, fb_nil]
    cases st with
    | none => simp [spansFromP, closeSpans, openPiece]
    | some a =>
      have := pieceU_ne s.data.toList a s.size (hst a rfl) (by rw [← size_eq]; exact Nat.le_refl _)
      simp [spansFromP, closeSpans, openPiece, this]
  | f + 1, pos, st, acc, h, hp, hst => by
    by_cases hlt : pos < s.size
    · obtain ⟨hw, hwn⟩ := decode_room s pos hlt
      simp only [spansFromP, if_pos hlt]
      cases hsp : isSp (Utf8.decode s pos).1 with
      | true =>
        rw [drop_32 s pos hlt hsp]
        simp only [if_true, fb]
        cases st with
        | none =>
          have ih := spansP_fb s f (pos + (Utf8.decode s pos).2) none acc (by omega) hwn (fun a h => by cases h)
          simpa [openPiece] using ih
        | some a =>
          have hpn := pieceU_ne s.data.toList a pos (hst a rfl) (by rw [← size_eq]; omega)
          have ih := spansP_fb s f (pos + (Utf8.decode s pos).2) none (acc ++ [(a, pos)]) (by omega) hwn (fun a h => by cases h)
          simpa [openPiece, hpn] using ih
      | false =>
        have hno := take_no32 s pos hlt hsp
        have hdr : s.data.toList.drop pos = (s.data.toList.drop pos).take (Utf8.decode s pos).2 ++ s.data.toList.drop (pos + (Utf8.decode s pos).2) := by
          rw [← List.drop_drop, List.take_append_drop]
        simp only [Bool.false_eq_true, if_false]
        rw [hdr, fb_word _ _ _ hno]
        cases st with
        | none =>
          have ih := spansP_fb s f (pos + (Utf8.decode s pos).2) (some pos) acc (by omega) hwn (fun a h => by cases h; omega)
          have e : ([] : List UInt8) ++ (s.data.toList.drop pos).take (Utf8.decode s pos).2 = pieceU s.data.toList pos (pos + (Utf8.decode s pos).2) := by
            unfold pieceU
            rw [List.nil_append, Nat.add_sub_cancel_left]
          simp only [openPiece] at ih ⊢
          rw [e]
          exact ih
        | some a =>
          have ih := spansP_fb s f (pos + (Utf8.decode s pos).2) (some a) acc (by omega) hwn (fun b h => by cases h; have := hst a rfl; omega)
          simp only [openPiece] at ih ⊢
          rw [pieceU_grow _ _ _ _ (Nat.le_of_lt (hst a rfl))]
          exact ih
    · obtain rfl : pos = s.size := by omega
      have hd : s.data.toList.drop s.size = [] := List.drop_eq_nil_of_le (by rw [← size_eq]; exact Nat.le_refl _)
      rw [hd, fb_nil, spansFromP_end isSp s _ _ _ _ hlt]
      cases st with
      | none => simp [closeSpans, openPiece]
      | some a =>
        have := pieceU_ne s.data.toList a s.size (hst a rfl) (by rw [← size_eq]; exact Nat.le_refl _)
        simp [closeSpans, openPiece, this]

/-- cut by the function 'is it a space': what stands between spaces -/
theorem goFields_fb (s : ByteArray) : (goFieldsP isSp s).map (·.data.toList) = fieldsB s.data.toList := by
  have h := spansP_fb s s.size 0 none [] (by omega) (Nat.zero_le _) (fun a h => by cases h)
  simp only [List.map_nil, List.nil_append, openPiece, List.drop_zero] at h
  unfold fieldsB goFieldsP spansOfP
  rw [← h, List.map_map]
  congr 1
  funext p
  simp [pieceU]

theorem fb_length : ∀ (l cur : Wd), (fb cur l).length ≤ l.length + 1
  | [], cur => by rw [fb_nil]; split <;> simp
  | c :: r, cur => by
    have h1 := fb_length r []
    have h2 := fb_length r (cur ++ [c])
    unfold fb
    split
    · split <;> simp <;> omega
    · simp; omega

end Tx
end Go.Proofs.YtoeemehdkejhfaaDoor
