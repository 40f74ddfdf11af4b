/- Likely and All of package guess, of an index that Make has made. -/
import Derived.Test.YtffhphcgmgkgbabGreatDoorGi
namespace Go.Proofs.YtffhphcgmgkgbabGreatDoor
open Go.RowKit
attribute [local irreducible] Bt.pop Bt.popF

namespace Pt
/-- how likely a sign is behind others: 0 of 1, if it is none -/
def lik (l b : List Int) (x : Int) : Nat × Nat := if 1 ≤ x ∧ x ≤ (En.most l : Int) then red (lv l x.toNat (last2 b)).1 (lv l x.toNat (last2 b)).2 else (0, 1)
theorem lik_no {l b : List Int} {x : Int} (h : x ≤ 0 ∨ (En.most l : Int) < x) : lik l b x = (0, 1) := by unfold lik; rw [if_neg (by omega)]
theorem lik_yes (l b : List Int) (x : Nat) (h1 : 1 ≤ x) (h2 : x ≤ En.most l) : lik l b x = red (lv l x (last2 b)).1 (lv l x (last2 b)).2 := by unfold lik; rw [if_pos ⟨by omega, by omega⟩, Int.toNat_natCast]
end Pt

section
variable {w0 : World} {B : Nat} {E L S : Option Addr} {cE cL cS N M : Nat} {l : List Int} {W : World}
theorem CB.seenLast (h : CB w0 B E L S cE cL cS N M l W) (A : Option Addr) (c n : Nat) (s : List Int) (hn : n = s.length) (hr : IRow W W.heap.size A s) (hcap : n ≤ c) (hs : n ≤ 17592186044416) :
    Calls Tryz.prog 26 #[.agg #[.slice E N cE, .int .i64 N, .int .i64 10, .slice L 10 cL, .slice S M cS], .slice A n c] W (SeenL W l (Pt.last2 s)) := by
  subst hn
  exact seenBehindLast_any E L S A cE cL cS N M c l s W h.cmb h.len h.num h.capE h.capL hr hcap hs
end

set_option maxRecDepth 100000 in
set_option maxHeartbeats 2000000 in
theorem likelyF_no (E L S A : Option Addr) (cE cL cS N m c n : Nat) (x : Int) (w : World) (hg : NG w) (hm : m < 1024) (hx : x ≤ 0 ∨ (m : Int) < x) :
    Calls Tryz.prog 12 #[.agg #[.slice E N cE, .int .i64 N, .int .i64 10, .slice L 10 cL, .slice S (m + 2) cS], .slice A n c, .int .i64 x] w fun e w' => e = .returned (.agg #[.int .i64 0, .int .i64 1]) ∧ Below w.heap.size w w' := by
  have n0 := hg.n0
  have n1 := hg.n1
  have nl := hg.lt
  have HGr := Lib.hid (fun W => greatest_any E L S N cE N 10 10 cL m cS W (by omega))
  have hb1 := (Below.refl _ w).alloc (Nat.le_refl _) (.cells #[.slice E N cE, .int .i64 N, .int .i64 10, .slice L 10 cL, .slice S (m + 2) cS] 33)
  have R0 := Bx2.new' hb1 (w.heap.size + 1) (by simp) (.int .i64 0) (.int .i64 0) 24
  have G1 := (hg.on hb1).on ((Below.refl _ _).alloc (Nat.le_refl _) (.cells #[.int .i64 0, .int .i64 0] 24))
  clear hb1 hg n0 n1 nl
  by_cases h0 : x ≤ 0
  · have n0 := G1.n0
    have n1 := G1.n1
    clear G1 R0 HGr hx
    go_enter Tryz.func12, Tryz.ntmps12
    go_wp2
    refine bodyPost_ret (v := .agg #[.int .i64 0, .int .i64 1]) (by simp [results, Tryz.results12, go_sem]) rfl ⟨rfl, ((Below.refl _ w).alloc (Nat.le_refl _) _).alloc (by simp) _⟩
  · have hx2 : (m : Int) < x := by omega
    have hx0 : ¬ x ≤ 0 := h0
    clear hx h0
    go_enter Tryz.func12, Tryz.ntmps12
    go_wp2_with fail
    with_reducible refine (HGr.out _).mono ?_
    rintro e w1 ⟨rfl, hb1⟩
    have R1 := R0.on hb1
    have G2 := G1.on hb1
    clear HGr R0 G1 hb1
    have n0 := G2.n0
    have n1 := G2.n1
    have r0 := R1.c0
    have r1 := R1.c1
    have f0 := R1.f0
    have f1 := R1.f1
    have R2 := R1.set (.int .i64 0) (.int .i64 1)
    clear G2 R1
    go_wp2
    have c0 := R2.c0
    have c1 := R2.c1
    refine bodyPost_ret (v := .agg #[.int .i64 0, .int .i64 1]) (by simp [results, Tryz.results12, go_sem, c0, c1]) rfl ⟨rfl, R2.old⟩

set_option maxRecDepth 100000 in
set_option maxHeartbeats 2000000 in
theorem likelyF_yes (E L S A : Option Addr) (cE cL cS N M c n x : Nat) (l s : List Int) (w : World) (h : Cmb w E L S l) (hN : N = l.length) (hM : M = En.most l + 2) (hE : N ≤ cE) (hL : 10 ≤ cL) (hr : IRow w w.heap.size A s) (hn : n = s.length) (hcap : n ≤ c) (hs : n ≤ 17592186044416) (hl : l.length ≤ 150) (h1 : 1 ≤ x) (h2 : x ≤ En.most l) :
    Calls Tryz.prog 12 #[.agg #[.slice E N cE, .int .i64 N, .int .i64 10, .slice L 10 cL, .slice S M cS], .slice A n c, .int .i64 x] w fun e w' => e = .returned (.agg #[.int .i64 ((Pt.lik l s x).1 : Nat), .int .i64 ((Pt.lik l s x).2 : Nat)]) ∧ Below w.heap.size w w' := by
  have hsg := h.sg
  have hfit := h.fit
  have hb1 := (Below.refl _ w).alloc (Nat.le_refl _) (.cells #[.slice E N cE, .int .i64 N, .int .i64 10, .slice L 10 cL, .slice S M cS] 33)
  have J0 : CB w w.heap.size E L S cE cL cS N M l _ := CB.start h hN hM hE hL (Below.refl _ _) 33
  have hb2 := (Below.refl _ (w.alloc (.cells #[.slice E N cE, .int .i64 N, .int .i64 10, .slice L 10 cL, .slice S M cS] 33))).alloc (Nat.le_refl _) (.cells #[.int .i64 0, .int .i64 0] 24)
  have J := J0.on hb2
  have hrow := (hr.on hb1).on hb2
  have R0 := Bx2.new' hb1 (w.heap.size + 1) (by simp) (.int .i64 0) (.int .i64 0) 24
  have HGr : Hid (∀ W, CB w w.heap.size E L S cE cL cS N M l W → Calls Tryz.prog 24 #[.agg #[.slice E N cE, .int .i64 N, .int .i64 10, .slice L 10 cL, .slice S M cS]] W fun e w' => e = .returned (.int .i64 (En.most l : Nat)) ∧ Below W.heap.size W w') := Lib.hid fun W hW => hW.greatest
  have HSn : Hid (∀ W, CB w w.heap.size E L S cE cL cS N M l W → IRow W W.heap.size A s → Calls Tryz.prog 26 #[.agg #[.slice E N cE, .int .i64 N, .int .i64 10, .slice L 10 cL, .slice S M cS], .slice A n c] W (SeenL W l (Pt.last2 s))) := Lib.hid fun W hW hA => hW.seenLast A c n s hn hA hcap hs
  have HLk : Hid (∀ A' k' c' W, Seen W A' l (Pt.last2 s) k' → Calls Tryz.prog 25 #[.slice A' k' c', .int .i64 x, .int .i64 (En.most l : Nat)] W fun e w' => e = .returned (.agg #[.int .i64 ((Pt.lik l s x).1 : Nat), .int .i64 ((Pt.lik l s x).2 : Nat)]) ∧ Below W.heap.size W w') := Lib.hid fun A' k' c' W hW => by
    rw [Pt.lik_yes l s x h1 h2]
    exact likely_any A' k' c' x l (Pt.last2 s) W hW hsg hl hfit h1 h2 (by rw [Pt.last2_len]; omega)
  have hx0 : ¬ ((x : Int) ≤ 0) := by omega
  have hx1 : ¬ ((En.most l : Int) < (x : Int)) := by omega
  clear h hN hM hr hb1 J0 hb2 hsg hl hfit hn
  generalize Pt.lik l s x = q at *
  generalize En.most l = m at *
  go_enter Tryz.func12, Tryz.ntmps12
  go_wp2_with fail
  with_reducible refine (HGr.out _ J).mono ?_
  rintro e w1 ⟨rfl, hb1⟩
  have J1 := J.on hb1
  have R1 := R0.on hb1
  have hrow1 := hrow.on hb1
  clear J R0 hrow hb1
  go_wp2_with fail
  have J2 := J1.drew
  have R2 := R1.drew
  have hrow2 : IRow w1.drew w1.drew.heap.size A s := hrow1.on (Below.refl _ _).drew
  refine wp_region_takes 7 [0, 1, 3, 4] [2, 5, 6] (fun w' => w'.cell? ⟨w.heap.size, 0, none⟩ = some (.slice E N cE) ∧ w'.cell? ⟨w.heap.size, 1, none⟩ = some (.int .i64 N) ∧ w'.cell? ⟨w.heap.size, 2, none⟩ = some (.int .i64 10) ∧ w'.cell? ⟨w.heap.size, 3, none⟩ = some (.slice L 10 cL) ∧ w'.cell? ⟨w.heap.size, 4, none⟩ = some (.slice S M cS)) (by kernel_rfl) (by kernel_rfl) ⟨J2.c0, J2.c1, J2.c2, J2.c3, J2.c4⟩ ?_
  clear J1 R1 hrow1
  refine wpTakes_cons (v := ?_) _ at0 rfl ?_ ?_ ?_
  rotate_left 1
  · rintro W ⟨x0, x1, x2, x3, x4⟩
    go_simp
    rfl
  · exact fun _ _ _ h => h
  simp only [Act.put, List.setIfInBounds_toArray, List.set_cons_zero, List.set_cons_succ]
  refine wpTakes_cons (v := ?_) _ at1 rfl ?_ ?_ ?_
  rotate_left 1
  · rintro W ⟨x0, x1, x2, x3, x4⟩
    go_simp
    rfl
  · exact fun _ _ _ h => h
  simp only [Act.put, List.setIfInBounds_toArray, List.set_cons_zero, List.set_cons_succ]
  refine wpTakes_cons (v := ?_) _ at3 rfl ?_ ?_ ?_
  rotate_left 1
  · rintro W ⟨x0, x1, x2, x3, x4⟩
    go_simp
    rfl
  · exact fun _ _ _ h => h
  simp only [Act.put, List.setIfInBounds_toArray, List.set_cons_zero, List.set_cons_succ]
  refine wpTakes_cons (v := ?_) _ at4 rfl ?_ ?_ ?_
  rotate_left 1
  · rintro W ⟨x0, x1, x2, x3, x4⟩
    go_simp
    rfl
  · exact fun _ _ _ h => h
  simp only [Act.put, List.setIfInBounds_toArray, List.set_cons_zero, List.set_cons_succ]
  refine wpTakes_nil (wpCalls_cons _ at2 rfl fun K' hK' => ?_)
  go_simp
  go_at_call 26
  refine (HSn.out _ J2 hrow2).mono ?_
  rintro e w3 ⟨A3, k3, c3, rfl, S3, hb3⟩
  have J3 := J2.on hb3
  have R3 := R2.on hb3
  refine hK'.out _ _ ⟨J3.c0, J3.c1, J3.c2, J3.c3, J3.c4⟩ ?_
  clear hK' J2 R2 hrow2 hb3 HSn
  refine wpCalls_cons _ at5 rfl fun K' hK' => ?_
  go_simp
  go_at_call 24
  refine (HGr.out _ J3).mono ?_
  rintro e w4 ⟨rfl, hb4⟩
  have J4 := J3.on hb4
  have R4 := R3.on hb4
  have S4 := S3.on hb4
  refine hK'.out _ _ ⟨J4.c0, J4.c1, J4.c2, J4.c3, J4.c4⟩ ?_
  clear hK' J3 R3 S3 hb4 HGr
  refine wpCalls_cons _ at6 rfl fun K' hK' => ?_
  go_simp
  go_at_call 25
  refine (HLk.out _ _ _ _ S4).mono ?_
  rintro e w5 ⟨rfl, hb5⟩
  have J5 := J4.on hb5
  have R5 := R4.on hb5
  refine hK'.out _ _ ⟨J5.c0, J5.c1, J5.c2, J5.c3, J5.c4⟩ (wpCalls_nil ?_)
  clear hK' J4 R4 S4 hb5 HLk J5
  simp only [List.drop_succ_cons, List.drop_zero]
  have r0 := R5.c0
  have r1 := R5.c1
  have f0 := R5.f0
  have f1 := R5.f1
  have R6 := R5.set (.int .i64 (q.1 : Nat)) (.int .i64 (q.2 : Nat))
  clear R5
  go_wp2
  have c0 := R6.c0
  have c1 := R6.c1
  refine bodyPost_ret (v := .agg #[.int .i64 (q.1 : Nat), .int .i64 (q.2 : Nat)]) (by simp [results, Tryz.results12, go_sem, c0, c1]) rfl ⟨rfl, R6.old⟩

/-- Likely of whatever number -/
theorem likelyF_any (E L S A : Option Addr) (cE cL cS N M c n : Nat) (x : Int) (l s : List Int) (w : World) (hg : NG w) (h : Cmb w E L S l) (hN : N = l.length) (hM : M = En.most l + 2) (hE : N ≤ cE) (hL : 10 ≤ cL) (hr : IRow w w.heap.size A s) (hn : n = s.length) (hcap : n ≤ c) (hs : n ≤ 17592186044416) (hl : l.length ≤ 150) :
    Calls Tryz.prog 12 #[.agg #[.slice E N cE, .int .i64 N, .int .i64 10, .slice L 10 cL, .slice S M cS], .slice A n c, .int .i64 x] w fun e w' => e = .returned (.agg #[.int .i64 ((Pt.lik l s x).1 : Nat), .int .i64 ((Pt.lik l s x).2 : Nat)]) ∧ Below w.heap.size w w' := by
  by_cases hx : x ≤ 0 ∨ (En.most l : Int) < x
  · rw [Pt.lik_no hx, hM]
    exact likelyF_no E L S A cE cL cS N (En.most l) c n x w hg h.fit hx
  · obtain ⟨y, rfl⟩ := Int.eq_ofNat_of_zero_le (show 0 ≤ x by omega)
    exact likelyF_yes E L S A cE cL cS N M c n y l s w h hN hM hE hL hr hn hcap hs hl (by omega) (by omega)

end Go.Proofs.YtffhphcgmgkgbabGreatDoor
