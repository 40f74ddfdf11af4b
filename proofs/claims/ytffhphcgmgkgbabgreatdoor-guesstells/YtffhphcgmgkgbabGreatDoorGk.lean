/- 'guesses' (of one list guess answers as told); Make of whatever list; the greatest of a list, number by number. -/
import Derived.Test.YtffhphcgmgkgbabGreatDoorGj
namespace Go.Proofs.YtffhphcgmgkgbabGreatDoor
open Go.RowKit
attribute [local irreducible] Bt.pop Bt.popF

/-- Make of whatever list -/
def MkPost (w : World) (l : List Int) (n : Nat) (e : Ending) (w' : World) : Prop :=
  NoComb w e w' ∨ ∃ E L S cE cL cS, e = .returned (.tuple #[.agg #[.slice E n cE, .int .i64 n, .int .i64 10, .slice L 10 cL, .slice S (En.most l + 2) cS], .bool true]) ∧ n ≤ cE ∧ 10 ≤ cL ∧ Cmb w' E L S l ∧ Below w.heap.size w w'
theorem combMake_all (A : Option Addr) (c n : Nat) (l : List Int) (w : World) (hr : IRow w w.heap.size A l) (hn : n = l.length) (hcap : n ≤ c) (hs : n ≤ 17592186044416) :
    Calls Tryz.prog 11 #[.slice A n c] w (MkPost w l n) := by
  subst hn
  by_cases h : En.good l = false ∨ 4096 < l.length
  · exact (combMake_no A c l w hr hs hcap h).mono fun _ _ hh => .inl hh
  · have hg : En.good l = true := by cases hh : En.good l; exact absurd (.inl hh) h; rfl
    have hl : l.length ≤ 4096 := by omega
    by_cases hf : En.most l < 1024
    · exact (combMake_in A c l w hr hcap hg hl hf).mono fun _ _ hh => .inr hh
    · exact (combMake_out A c l w hr hcap hg hl (by omega)).mono fun _ _ hh => .inl hh

theorem most_snoc (l : List Int) (x : Int) : En.most (l ++ [x]) = max (En.most l) x.toNat := by
  induction l with
  | nil => simp [En.most]
  | cons y l ih => simp only [List.cons_append, En.most, List.foldr_cons] at ih ⊢; omega
/-- the greatest of the first k -/
def mostK (l : List Int) (k : Nat) : Nat := En.most (l.take k)
theorem mostK_zero (l : List Int) : mostK l 0 = 0 := rfl
theorem mostK_succ (l : List Int) (k : Nat) (h : k < l.length) : ((mostK l (k + 1) : Nat) : Int) = max ((mostK l k : Nat) : Int) (l.getD k 0) := by
  unfold mostK
  rw [List.take_succ_eq_append_getElem h, most_snoc, show l.getD k 0 = l[k] from by simp [h]]
  omega
theorem mostK_end (l : List Int) : mostK l l.length = En.most l := by unfold mostK; rw [List.take_length]

theorem field_part (a b : Int) (W : World) : (Instr.field 24 (.agg #[.int .i64 a, .int .i64 b]) 0).run Tryz.prog W = .ok (.int .i64 a) W := by kernel_rfl
theorem sum_half : Pt.sumP (1, 6) (1, 3) = (1, 2) := by decide
theorem five_sg : En.Sg [2, 1, 2, 1, 0] := En.Sg.of_good five_good
theorem five_lik : ∃ p : Nat × Nat, Pt.lik [2, 1, 2, 1, 0] [1, 2] ((1 : Nat) : Int) = p ∧ 0 < p.1 := by
  refine ⟨_, rfl, ?_⟩
  rw [Pt.lik_yes _ _ 1 (by omega) (by rw [five_most]; omega)]
  have h := Pt.lv_pos five_sg 1 (by rw [five_most]; omega) (Pt.last2 [1, 2])
  exact Pt.red_one h.2 h.1

end Go.Proofs.YtffhphcgmgkgbabGreatDoor
