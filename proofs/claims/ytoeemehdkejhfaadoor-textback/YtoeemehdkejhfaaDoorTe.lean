/- The form of words, as the library looks for a rune that is no letter. No program is named here. -/
import Derived.Test.YtoeemehdkejhfaaDoorTb
import Derived.Shelf.GgClosure.StringsIndexFunc
namespace Go.Proofs.YtoeemehdkejhfaaDoor
namespace Tx
open Go.Lib

/-- the rune is no letter -/
def isNo (r : Nat) : Bool := decide (r < 97) || decide (122 < r)

theorem idx_no (s : ByteArray) : ∀ (f pos : Nat), s.size ≤ pos + f → (decide (0 ≤ idxFuncFrom isNo true s f pos) = !((s.data.toList.drop pos).all letter))
  | 0, pos, h => by
    rw [List.drop_eq_nil_of_le (by rw [← size_eq]; omega)]
    rfl
  | f + 1, pos, h => by
    unfold idxFuncFrom
    by_cases hlt : pos < s.size
    · rw [if_pos hlt]
      obtain ⟨d1, d2⟩ := decode_is s pos
      have hlt' : pos < s.data.toList.length := by rw [← size_eq]; exact hlt
      have hg := get_at s pos hlt
      rw [List.getElem?_eq_getElem hlt'] at hg
      injection hg with hg
      rw [List.drop_eq_getElem_cons hlt', hg, List.all_cons]
      by_cases hb : (s.get! pos).toNat < 128
      · rw [d1 hb]
        by_cases hl : letter (s.get! pos) = true
        · have hn : isNo (s.get! pos).toNat = false := by
            have := of_decide_eq_true hl
            unfold isNo; simp; omega
          simp only [hn, hl, Bool.true_and, Bool.false_eq_true, if_false]
          exact idx_no s f (pos + 1) (by omega)
        · have hn : isNo (s.get! pos).toNat = true := by
            have : ¬ (97 ≤ (s.get! pos).toNat ∧ (s.get! pos).toNat ≤ 122) := fun h => hl (decide_eq_true h)
            unfold isNo; simp; omega
          simp only [hn, if_true]
          simp [hl]
      · have h1 := (d2 (by omega)).1
        have hn : isNo (Utf8.decode s pos).1 = true := by unfold isNo; simp; omega
        have hl : letter (s.get! pos) = false := by unfold letter; simp; omega
        simp only [hn, if_true]
        simp [hl]
    · rw [if_neg hlt, List.drop_eq_nil_of_le (by rw [← size_eq]; omega)]
      rfl
theorem contains_no (s : ByteArray) : decide (0 ≤ idxFunc isNo true s) = !(s.data.toList.all letter) := by
  unfold idxFunc
  rw [idx_no s s.size 0 (by omega), List.drop_zero]

end Tx
end Go.Proofs.YtoeemehdkejhfaaDoor
