/- 'guesses' (of one list guess answers as told); Make of whatever list; the greatest of a list, number by number. -/
import Derived.Test.YtffhphcgmgkgbabDoorGj
namespace Go.Proofs.YtffhphcgmgkgbabDoor
open Go.RowKit
attribute [local irreducible] Bt.pop Bt.popF

/-- Make of whatever list -/
def MkPost (w : World) (l : List Int) (n : Nat) (e : Ending) (w' : World) : Prop :=
  NoComb w e w' ∨ ∃ E L S cE cL cS, e = .returned (.tuple #[.agg #[.slice E n cE, .int .i64 n, .int .i64 10, .slice L 10 cL, .slice S (En.most l + 2) cS], .bool true]) ∧ n ≤ cE ∧ 10 ≤ cL ∧ Cmb w' E L S l ∧ Below w.heap.size w w'
theorem combMake_all (A : Option Addr) (c n : Nat) (l : List Int) (w : World) (hr : IRow w w.heap.size A l) (hn : n = l.length) (hcap : n ≤ c) (hs : n ≤ 17592186044416) :
    Calls Tryd.prog 5 #[.slice A n c] w (MkPost w l n) := by
  subst hn
  by_cases h : En.good l = false ∨ 4096 < l.length
  · exact (combMake_no A c l w hr hs hcap h).mono fun _ _ hh => .inl hh
  · have hg : En.good l = true := by cases hh : En.good l; exact absurd (.inl hh) h; rfl
    have hl : l.length ≤ 4096 := by omega
    by_cases hf : En.most l < 1024
    · exact (combMake_in A c l w hr hcap hg hl hf).mono fun _ _ hh => .inr hh
    · exact (combMake_out A c l w hr hcap hg hl (by omega)).mono fun _ _ hh => .inl hh

theorem most_snoc (l : List Int) (x : Int) : En.most (l ++ [x]) = max (En.most l) x.toNat := by
  induction l with
  | nil => simp [En.most]
  | cons y l ih => simp only [List.cons_append, En.most, List.foldr_cons] at ih ⊢; omega
/-- the greatest of the first k -/
def mostK (l : List Int) (k : Nat) : Nat := En.most (l.take k)
theorem mostK_zero (l : List Int) : mostK l 0 = 0 := rfl
theorem mostK_succ (l : List Int) (k : Nat) (h : k < l.length) : ((mostK l (k + 1) : Nat) : Int) = max ((mostK l k : Nat) : Int) (l.getD k 0) := by
  unfold mostK
  rw [List.take_succ_eq_append_getElem h, most_snoc, show l.getD k 0 = l[k] from by simp [h]]
  omega
theorem mostK_end (l : List Int) : mostK l l.length = En.most l := by unfold mostK; rw [List.take_length]

theorem field_part (a b : Int) (W : World) : (Instr.field 32 (.agg #[.int .i64 a, .int .i64 b]) 0).run Tryd.prog W = .ok (.int .i64 a) W := by kernel_rfl
theorem sum_half : Pt.sumP (1, 6) (1, 3) = (1, 2) := by decide
theorem five_sg : En.Sg [2, 1, 2, 1, 0] := En.Sg.of_good five_good
theorem five_lik : ∃ p : Nat × Nat, Pt.lik [2, 1, 2, 1, 0] [1, 2] ((1 : Nat) : Int) = p ∧ 0 < p.1 := by
  refine ⟨_, rfl, ?_⟩
  rw [Pt.lik_yes _ _ 1 (by omega) (by rw [five_most]; omega)]
  have h := Pt.lv_pos five_sg 1 (by rw [five_most]; omega) (Pt.last2 [1, 2])
  exact Pt.red_one h.2 h.1

set_option maxRecDepth 100000 in
set_option maxHeartbeats 2000000 in
theorem guessesK_any (w : World) : Calls Tryd.prog 6 #[] w fun e w' => e = .returned (.bool true) ∧ Below w.heap.size w w' := by
  have HM := Lib.hid (make_five w)
  obtain ⟨p, hp, hp0⟩ := five_lik
  have HA : Hid (∀ W, Calls Tryd.prog 8 #[.agg #[.int .i64 1, .int .i64 6], .agg #[.int .i64 1, .int .i64 3]] W fun e w' => e = .returned (.agg #[.int .i64 1, .int .i64 2]) ∧ Below W.heap.size W w') := Lib.hid fun W => by
    have := add_any 1 6 1 3 W (by omega) (by omega) (by omega) (by omega)
    rw [sum_half] at this
    exact this
  have HLk : Hid (∀ (E L S : Option Addr) (cE cL cS : Nat) W, CB w W.heap.size E L S cE cL cS 5 4 [2, 1, 2, 1, 0] W → True) := Lib.hid fun _ _ _ _ _ _ _ _ => trivial
  have HL : Hid (∀ (B : Nat) (E L S : Option Addr) (cE cL cS : Nat) W, CB w B E L S cE cL cS 5 4 [2, 1, 2, 1, 0] W → Calls Tryd.prog 9 #[.agg #[.slice E 5 cE, .int .i64 5, .int .i64 10, .slice L 10 cL, .slice S 4 cS], .slice (some ⟨W.heap.size, 0, none⟩) 2 2, .int .i64 1] (W.alloc (.cells #[.int .i64 1, .int .i64 2] 3)) fun e w' => e = .returned (.agg #[.int .i64 (p.1 : Nat), .int .i64 (p.2 : Nat)]) ∧ CB w B E L S cE cL cS 5 4 [2, 1, 2, 1, 0] w') := Lib.hid fun B E L S cE cL cS W h => by
    have J := h.on ((Below.refl _ _).alloc (Nat.le_refl _) (.cells #[.int .i64 1, .int .i64 2] 3))
    have h2 := likelyF_yes E L S (some ⟨W.heap.size, 0, none⟩) cE cL cS 5 4 2 2 1 [2, 1, 2, 1, 0] [1, 2] _ J.cmb rfl (by rw [five_most]) J.capE J.capL (irow_new W [1, 2] 3) rfl (by omega) (by omega) (by decide) (by omega) (by rw [five_most]; omega)
    rw [hp] at h2
    exact h2.mono fun e w' hh => ⟨hh.1, J.on hh.2⟩
  clear HLk hp
  go_enter Tryd.func6, Tryd.ntmps6
  go_wp2_with fail
  with_reducible refine (HM.out _ rfl).mono ?_
  rintro e w1 ⟨E, L, S, cE, cL, cS, rfl, hE, hL, hC, hb⟩
  have J0 : CB w w1.heap.size E L S cE cL cS 5 4 [2, 1, 2, 1, 0] (w1.alloc (.cells #[.slice E 5 cE, .int .i64 5, .int .i64 10, .slice L 10 cL, .slice S 4 cS] 27)) := CB.start hC rfl (by rw [five_most]) hE hL hb 27
  clear HM hC hb hE hL
  go_wp2_with fail
  with_reducible refine (HA.out _).mono ?_
  rintro e w2 ⟨rfl, hb2⟩
  have J1 := J0.on hb2
  clear HA J0 hb2
  have c0 := J1.c0
  have c1 := J1.c1
  have c2 := J1.c2
  have c3 := J1.c3
  have c4 := J1.c4
  go_wp2_with fail
  with_reducible refine (HL.out _ _ _ _ _ _ _ _ J1).mono ?_
  rintro e w3 ⟨rfl, J2⟩
  have hold := J2.old
  have hz : (0 : Int) < ((p.1 : Nat) : Int) := by omega
  clear HL J1 J2 c0 c1 c2 c3 c4
  have hfd : ∀ W : World, (Instr.field 32 (.agg #[.int .i64 (p.1 : Nat), .int .i64 (p.2 : Nat)]) 0).run Tryd.prog W = .ok (.int .i64 (p.1 : Nat)) W := fun W => field_part _ _ W
  go_wp2
  go_ret
  exact ⟨by first | rfl | simp, hold⟩

end Go.Proofs.YtffhphcgmgkgbabDoor
