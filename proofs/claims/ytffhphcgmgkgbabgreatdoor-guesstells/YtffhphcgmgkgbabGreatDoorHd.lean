/- The walk of the law GuessTells. -/
import Derived.Test.YtffhphcgmgkgbabGreatDoorHc
import Derived.Test.YtffhphcgmgkgbabGreatDoorGl
import Derived.Test.YtffhphcgmgkgbabGreatDoorJf
import Derived.Test.YtffhphcgmgkgbabGreatDoorJj
import Derived.Test.YtffhphcgmgkgbabGreatDoorRh
namespace Go.Proofs.YtffhphcgmgkgbabGreatDoor
open Go.RowKit
attribute [local irreducible] Bt.pop Bt.popF

/-- both boxes, and what was there -/
structure AB (w : World) (aN aD bN bD : Int) (W : World) : Prop where
  a : Bx2 w w.heap.size (.int .i64 aN) (.int .i64 aD) W
  b : Bx2 w (w.heap.size + 1) (.int .i64 bN) (.int .i64 bD) W
theorem AB.on {w : World} {aN aD bN bD : Int} {W W' : World} (h : AB w aN aD bN bD W) (hb : Below W.heap.size W W') : AB w aN aD bN bD W' := ⟨h.a.on hb, h.b.on hb⟩

theorem mul_small {a b : Nat} (h1 : a ≤ 1048576) (h2 : b ≤ 1048576) : a * b ≤ 1099511627776 := Nat.mul_le_mul h1 h2

set_option maxRecDepth 100000 in
set_option maxHeartbeats 4000000 in
theorem guessTells_any (A A2 : Option Addr) (c c2 N n : Nat) (x aN aD bN bD : Int) (l s : List Int) (w : World) (hg : NG w) (hr : IRow w w.heap.size A l) (hr2 : IRow w w.heap.size A2 s) (hN : N = l.length) (hn : n = s.length) (hcap2 : n ≤ c2) (hNl : N ≤ 17592186043904) (hnl : n ≤ 17592186043904)
    (ha1 : -9223372036854775808 ≤ aN) (ha2 : aN ≤ 9223372036854775807) (ha3 : -9223372036854775808 ≤ aD) (ha4 : aD ≤ 9223372036854775807)
    (hb1 : -9223372036854775808 ≤ bN) (hb2 : bN ≤ 9223372036854775807) (hb3 : -9223372036854775808 ≤ bD) (hb4 : bD ≤ 9223372036854775807) :
    Calls Tryz.prog 3 #[.slice A N c, .slice A2 n c2, .int .i64 x, .agg #[.int .i64 aN, .int .i64 aD], .agg #[.int .i64 bN, .int .i64 bD]] w fun e w' => e = .returned (.bool true) ∧ Below w.heap.size w w' := by
  have HA : Hid (∀ W, Below w.heap.size w W → ∀ i, i < N → ∃ b o, A = some ⟨b, o, none⟩ ∧ W.cell? ⟨b, o + i, none⟩ = some (.int .i64 (l.getD i 0))) := Lib.hid fun W hW i hi => by
    obtain ⟨b, o, e, _, hc⟩ := (hr.on hW) (by omega)
    exact ⟨b, o, e, hc i (by omega)⟩
  have HI : Hid (∀ W, Below w.heap.size w W → Calls Tryz.prog 9 #[.slice A N c] W fun e w' => e = .returned (.bool (En.good l)) ∧ Below W.heap.size W w') := Lib.hid fun W hW => by rw [hN]; exact isList_any A c l W (hr.on hW) (by omega)
  have HW := Lib.hid (fun W => guessesL_any W)
  have HRl : Hid (∀ W, Below w.heap.size w W → Row W W.heap.size A N (fun k => .int .i64 (l.getD k 0))) := Lib.hid fun W hW => by rw [hN]; exact hr.on hW
  have HRs : Hid (∀ W, Below w.heap.size w W → Row W W.heap.size A2 n (fun k => .int .i64 (s.getD k 0))) := Lib.hid fun W hW => by rw [hn]; exact hr2.on hW
  have HS : Hid (∀ k, k < N → ((mostK l (k + 1) : Nat) : Int) = max ((mostK l k : Nat) : Int) (l.getD k 0)) := Lib.hid fun k hk => mostK_succ l k (by omega)
  have HE : Hid (mostK l N = En.most l) := Lib.hid (by rw [hN]; exact mostK_end l)
  have HMk : Hid (En.good l = true → N ≤ 101 → En.most l ≤ 100 → ∀ A' c' W, Row W W.heap.size A' N (fun k => .int .i64 (l.getD k 0)) → N ≤ c' → Calls Tryz.prog 11 #[.slice A' N c'] W fun e w' => ∃ E L S cE cL cS, e = .returned (.tuple #[.agg #[.slice E N cE, .int .i64 N, .int .i64 10, .slice L 10 cL, .slice S (En.most l + 2) cS], .bool true]) ∧ N ≤ cE ∧ 10 ≤ cL ∧ Cmb w' E L S l ∧ Below W.heap.size W w') := Lib.hid fun h1 h2 h3 A' c' W hW hc => by
    subst hN
    exact combMake_in A' c' l W hW hc h1 (by omega) (by omega)
  have HLk : Hid (∀ (B : Nat) (E L S X : Option Addr) (cE cL cS M cx : Nat) W, CB w B E L S cE cL cS N M l W → N ≤ 101 → Row W W.heap.size X n (fun k => .int .i64 (s.getD k 0)) → n ≤ cx → Calls Tryz.prog 12 #[.agg #[.slice E N cE, .int .i64 N, .int .i64 10, .slice L 10 cL, .slice S M cS], .slice X n cx, .int .i64 x] W fun e w' => e = .returned (.agg #[.int .i64 ((Pt.lik l s x).1 : Nat), .int .i64 ((Pt.lik l s x).2 : Nat)]) ∧ CB w B E L S cE cL cS N M l w') := Lib.hid fun B E L S X cE cL cS M cx W hW hN1 hI hcx => by
    have hI' : IRow W W.heap.size X s := by unfold IRow; rw [← hn]; exact hI
    exact (likelyF_any E L S X cE cL cS N M cx n x l s W (hg.on hW.old) hW.cmb hW.len hW.num hW.capE hW.capL hI' hn hcx (by omega) (by omega)).mono fun e w' hh => And.intro hh.1 (hW.on hh.2)
  have HAl : Hid (∀ (B : Nat) (E L S X : Option Addr) (cE cL cS M cx : Nat) W, CB w B E L S cE cL cS N M l W → N ≤ 101 → Row W W.heap.size X n (fun k => .int .i64 (s.getD k 0)) → n ≤ cx → Calls Tryz.prog 14 #[.agg #[.slice E N cE, .int .i64 N, .int .i64 10, .slice L 10 cL, .slice S M cS], .slice X n cx] W (AllIs W l s)) := Lib.hid fun B E L S X cE cL cS M cx W hW hN1 hI hcx => by
    have hI' : IRow W W.heap.size X s := by unfold IRow; rw [← hn]; exact hI
    exact all_any E L S X cE cL cS N M cx n l s W hW.cmb hW.len hW.num hW.capE hW.capL hI' hn hcx (by omega) (by omega)
  have HLo : Hid (En.good l = true → N ≤ 101 → En.most l ≤ 100 → ∀ (y : Int) W, Below w.heap.size w W → Calls Tryz.prog 13 #[.slice A N c, .slice A2 n c2, .int .i64 y, .int .i64 (En.most l : Nat)] W fun e w' => e = .returned (.agg #[.int .i64 ((Pt.lik l s y).1 : Nat), .int .i64 ((Pt.lik l s y).2 : Nat)]) ∧ Below W.heap.size W w') := Lib.hid fun h1 h2 h3 y W hW =>
    likelyOf_any A A2 c c2 N n (En.most l) y l s W hN hn rfl (hr.on hW) (hr2.on hW) hcap2 (En.Sg.of_good h1) (by omega) (by omega) (by omega)
  have HNl := Lib.hid hN
  clear hr hr2 hg hN hn
  have HSa : Hid (∀ W, AB w aN aD bN bD W → Calls Tryz.prog 4 #[.agg #[.int .i64 aN, .int .i64 aD]] W fun e w' => e = .returned (.bool (smallB aN aD)) ∧ Below W.heap.size W w' ∧ AB w aN aD bN bD w') := Lib.hid fun W hW => (small_any aN aD W ha1 ha2 ha3 ha4).mono fun e w' hh => ⟨hh.1, hh.2, hW.on hh.2⟩
  have HSb : Hid (∀ W, AB w aN aD bN bD W → Calls Tryz.prog 4 #[.agg #[.int .i64 bN, .int .i64 bD]] W fun e w' => e = .returned (.bool (smallB bN bD)) ∧ Below W.heap.size W w' ∧ AB w aN aD bN bD w') := Lib.hid fun W hW => (small_any bN bD W hb1 hb2 hb3 hb4).mono fun e w' hh => ⟨hh.1, hh.2, hW.on hh.2⟩
  have A0 := Bx2.new (Below.refl w.heap.size w) (.int .i64 aN) (.int .i64 aD) 24
  have B0 := Bx2.new' A0.old (w.heap.size + 1) (by simp) (.int .i64 bN) (.int .i64 bD) 24
  have J0 : AB w aN aD bN bD ((w.alloc (.cells #[.int .i64 aN, .int .i64 aD] 24)).alloc (.cells #[.int .i64 bN, .int .i64 bD] 24)) := ⟨A0.on ((Below.refl _ _).alloc (Nat.le_refl _) _), B0⟩
  clear A0 B0
  go_enter Tryz.func3, Tryz.ntmps3
  go_upto_region 2 with fail
  generalize (w.alloc (.cells #[.int .i64 aN, .int .i64 aD] 24)).alloc (.cells #[.int .i64 bN, .int .i64 bD] 24) = W0 at *
  have J1 := J0.on (Below.refl _ _).drew
  go_cut [45] (fun s45 W => s45 = .bool false ∧ Below w.heap.size w W)
  case first =>
    have a0 := J1.a.c0
    have a1 := J1.a.c1
    have b0 := J1.b.c0
    have b1 := J1.b.c1
    cases hsa : smallB aN aD with
    | false =>
      rw [hsa] at HSa
      clear HSb hsa
      go_wp2_with fail
      refine wp_region_mix 25 [(true, 0), (true, 1), (false, 2), (true, 3), (true, 4), (true, 5), (false, 6), (true, 7), (true, 8), (true, 9), (true, 10), (true, 12), (true, 13), (false, 11), (false, 14), (true, 15), (true, 16), (true, 17), (true, 18), (true, 20), (true, 21), (false, 19), (false, 22), (true, 23), (true, 24)] (fun w' => w'.cell? ⟨w.heap.size, 0, none⟩ = some (.int .i64 aN) ∧ w'.cell? ⟨w.heap.size, 1, none⟩ = some (.int .i64 aD) ∧ w'.cell? ⟨w.heap.size + 1, 0, none⟩ = some (.int .i64 bN) ∧ w'.cell? ⟨w.heap.size + 1, 1, none⟩ = some (.int .i64 bD)) (by kernel_rfl) (by kernel_rfl) ⟨a0, a1, b0, b1⟩ ?_
      refine wpMix_on (v := ?_) _ at0 rfl ?_ ?_ ?_
      rotate_left 1
      · rintro W ⟨x0, x1, x2, x3⟩
        go_simp
        rfl
      · exact fun _ _ _ h => h
      simp only [Act.put, List.setIfInBounds_toArray, List.set_cons_zero, List.set_cons_succ]
      refine wpMix_on (v := ?_) _ at1 rfl ?_ ?_ ?_
      rotate_left 1
      · rintro W ⟨x0, x1, x2, x3⟩
        go_simp
        rfl
      · exact fun _ _ _ h => h
      simp only [Act.put, List.setIfInBounds_toArray, List.set_cons_zero, List.set_cons_succ]
      refine wpMix_call _ at2 rfl fun K' hK' => ?_
      go_simp
      go_at_call 4
      refine (HSa.out _ J1).mono ?_
      rintro e w2 ⟨rfl, hq, J2⟩
      refine hK'.out _ _ ⟨J2.a.c0, J2.a.c1, J2.b.c0, J2.b.c1⟩ ?_
      clear hK' hq
      refine wpMix_on (v := ?_) _ at3 rfl ?_ ?_ ?_
      rotate_left 1
      · rintro W ⟨x0, x1, x2, x3⟩
        go_simp
        rfl
      · exact fun _ _ _ h => h
      simp only [Act.put, List.setIfInBounds_toArray, List.set_cons_zero, List.set_cons_succ]
      refine wpMix_off _ at4 rfl ?_ ?_
      · exact fun _ _ _ h => h
      simp only [Act.put, List.setIfInBounds_toArray, List.set_cons_zero, List.set_cons_succ]
      refine wpMix_off _ at5 rfl ?_ ?_
      · exact fun _ _ _ h => h
      simp only [Act.put, List.setIfInBounds_toArray, List.set_cons_zero, List.set_cons_succ]
      refine wpMix_skip _ at6 rfl ?_
      simp only [Act.put, List.setIfInBounds_toArray, List.set_cons_zero, List.set_cons_succ]
      refine wpMix_on (v := ?_) _ at7 rfl ?_ ?_ ?_
      rotate_left 1
      · rintro W ⟨x0, x1, x2, x3⟩
        go_simp
        rfl
      · exact fun _ _ _ h => h
      simp only [Act.put, List.setIfInBounds_toArray, List.set_cons_zero, List.set_cons_succ]
      refine wpMix_on (v := ?_) _ at8 rfl ?_ ?_ ?_
      rotate_left 1
      · rintro W ⟨x0, x1, x2, x3⟩
        go_simp
        rfl
      · exact fun _ _ _ h => h
      simp only [Act.put, List.setIfInBounds_toArray, List.set_cons_zero, List.set_cons_succ]
      refine wpMix_off _ at9 rfl ?_ ?_
      · exact fun _ _ _ h => h
      simp only [Act.put, List.setIfInBounds_toArray, List.set_cons_zero, List.set_cons_succ]
      refine wpMix_off _ at10 rfl ?_ ?_
      · exact fun _ _ _ h => h
      simp only [Act.put, List.setIfInBounds_toArray, List.set_cons_zero, List.set_cons_succ]
      refine wpMix_off _ at12 rfl ?_ ?_
      · exact fun _ _ _ h => h
      simp only [Act.put, List.setIfInBounds_toArray, List.set_cons_zero, List.set_cons_succ]
      refine wpMix_off _ at13 rfl ?_ ?_
      · exact fun _ _ _ h => h
      simp only [Act.put, List.setIfInBounds_toArray, List.set_cons_zero, List.set_cons_succ]
      refine wpMix_skip _ at11 rfl ?_
      simp only [Act.put, List.setIfInBounds_toArray, List.set_cons_zero, List.set_cons_succ]
      refine wpMix_skip _ at14 rfl ?_
      simp only [Act.put, List.setIfInBounds_toArray, List.set_cons_zero, List.set_cons_succ]
      refine wpMix_off _ at15 rfl ?_ ?_
      · exact fun _ _ _ h => h
      simp only [Act.put, List.setIfInBounds_toArray, List.set_cons_zero, List.set_cons_succ]
      refine wpMix_off _ at16 rfl ?_ ?_
      · exact fun _ _ _ h => h
      simp only [Act.put, List.setIfInBounds_toArray, List.set_cons_zero, List.set_cons_succ]
      refine wpMix_off _ at17 rfl ?_ ?_
      · exact fun _ _ _ h => h
      simp only [Act.put, List.setIfInBounds_toArray, List.set_cons_zero, List.set_cons_succ]
      refine wpMix_off _ at18 rfl ?_ ?_
      · exact fun _ _ _ h => h
      simp only [Act.put, List.setIfInBounds_toArray, List.set_cons_zero, List.set_cons_succ]
      refine wpMix_off _ at20 rfl ?_ ?_
      · exact fun _ _ _ h => h
      simp only [Act.put, List.setIfInBounds_toArray, List.set_cons_zero, List.set_cons_succ]
      refine wpMix_off _ at21 rfl ?_ ?_
      · exact fun _ _ _ h => h
      simp only [Act.put, List.setIfInBounds_toArray, List.set_cons_zero, List.set_cons_succ]
      refine wpMix_skip _ at19 rfl ?_
      simp only [Act.put, List.setIfInBounds_toArray, List.set_cons_zero, List.set_cons_succ]
      refine wpMix_skip _ at22 rfl ?_
      simp only [Act.put, List.setIfInBounds_toArray, List.set_cons_zero, List.set_cons_succ]
      refine wpMix_off _ at23 rfl ?_ ?_
      · exact fun _ _ _ h => h
      simp only [Act.put, List.setIfInBounds_toArray, List.set_cons_zero, List.set_cons_succ]
      refine wpMix_off _ at24 rfl ?_ ?_
      · exact fun _ _ _ h => h
      simp only [Act.put, List.setIfInBounds_toArray, List.set_cons_zero, List.set_cons_succ]
      refine wpMix_nil ?_
      simp only [List.drop_succ_cons, List.drop_zero]
      go_wp2_with fail
      go_meet
      exact ⟨by first | rfl | simp, J2.a.old⟩
    | true =>
      rw [hsa] at HSa
      cases hsb : smallB bN bD with
      | false =>
        rw [hsb] at HSb
        clear hsa hsb
        go_wp2_with fail
        refine wp_region_mix 25 [(true, 0), (true, 1), (false, 2), (true, 3), (true, 4), (true, 5), (false, 6), (true, 7), (true, 8), (true, 9), (true, 10), (true, 12), (true, 13), (false, 11), (false, 14), (true, 15), (true, 16), (true, 17), (true, 18), (true, 20), (true, 21), (false, 19), (false, 22), (true, 23), (true, 24)] (fun w' => w'.cell? ⟨w.heap.size, 0, none⟩ = some (.int .i64 aN) ∧ w'.cell? ⟨w.heap.size, 1, none⟩ = some (.int .i64 aD) ∧ w'.cell? ⟨w.heap.size + 1, 0, none⟩ = some (.int .i64 bN) ∧ w'.cell? ⟨w.heap.size + 1, 1, none⟩ = some (.int .i64 bD)) (by kernel_rfl) (by kernel_rfl) ⟨a0, a1, b0, b1⟩ ?_
        refine wpMix_on (v := ?_) _ at0 rfl ?_ ?_ ?_
        rotate_left 1
        · rintro W ⟨x0, x1, x2, x3⟩
          go_simp
          rfl
        · exact fun _ _ _ h => h
        simp only [Act.put, List.setIfInBounds_toArray, List.set_cons_zero, List.set_cons_succ]
        refine wpMix_on (v := ?_) _ at1 rfl ?_ ?_ ?_
        rotate_left 1
        · rintro W ⟨x0, x1, x2, x3⟩
          go_simp
          rfl
        · exact fun _ _ _ h => h
        simp only [Act.put, List.setIfInBounds_toArray, List.set_cons_zero, List.set_cons_succ]
        refine wpMix_call _ at2 rfl fun K' hK' => ?_
        go_simp
        go_at_call 4
        refine (HSa.out _ J1).mono ?_
        rintro e w2 ⟨rfl, hq, J2⟩
        refine hK'.out _ _ ⟨J2.a.c0, J2.a.c1, J2.b.c0, J2.b.c1⟩ ?_
        clear hK' hq
        refine wpMix_on (v := ?_) _ at3 rfl ?_ ?_ ?_
        rotate_left 1
        · rintro W ⟨x0, x1, x2, x3⟩
          go_simp
          rfl
        · exact fun _ _ _ h => h
        simp only [Act.put, List.setIfInBounds_toArray, List.set_cons_zero, List.set_cons_succ]
        refine wpMix_on (v := ?_) _ at4 rfl ?_ ?_ ?_
        rotate_left 1
        · rintro W ⟨x0, x1, x2, x3⟩
          go_simp
          rfl
        · exact fun _ _ _ h => h
        simp only [Act.put, List.setIfInBounds_toArray, List.set_cons_zero, List.set_cons_succ]
        refine wpMix_on (v := ?_) _ at5 rfl ?_ ?_ ?_
        rotate_left 1
        · rintro W ⟨x0, x1, x2, x3⟩
          go_simp
          rfl
        · exact fun _ _ _ h => h
        simp only [Act.put, List.setIfInBounds_toArray, List.set_cons_zero, List.set_cons_succ]
        refine wpMix_call _ at6 rfl fun K' hK' => ?_
        go_simp
        go_at_call 4
        refine (HSb.out _ J2).mono ?_
        rintro e w3 ⟨rfl, hq, J3⟩
        refine hK'.out _ _ ⟨J3.a.c0, J3.a.c1, J3.b.c0, J3.b.c1⟩ ?_
        clear hK' hq
        refine wpMix_on (v := ?_) _ at7 rfl ?_ ?_ ?_
        rotate_left 1
        · rintro W ⟨x0, x1, x2, x3⟩
          go_simp
          rfl
        · exact fun _ _ _ h => h
        simp only [Act.put, List.setIfInBounds_toArray, List.set_cons_zero, List.set_cons_succ]
        refine wpMix_on (v := ?_) _ at8 rfl ?_ ?_ ?_
        rotate_left 1
        · rintro W ⟨x0, x1, x2, x3⟩
          go_simp
          rfl
        · exact fun _ _ _ h => h
        simp only [Act.put, List.setIfInBounds_toArray, List.set_cons_zero, List.set_cons_succ]
        refine wpMix_off _ at9 rfl ?_ ?_
        · exact fun _ _ _ h => h
        simp only [Act.put, List.setIfInBounds_toArray, List.set_cons_zero, List.set_cons_succ]
        refine wpMix_off _ at10 rfl ?_ ?_
        · exact fun _ _ _ h => h
        simp only [Act.put, List.setIfInBounds_toArray, List.set_cons_zero, List.set_cons_succ]
        refine wpMix_off _ at12 rfl ?_ ?_
        · exact fun _ _ _ h => h
        simp only [Act.put, List.setIfInBounds_toArray, List.set_cons_zero, List.set_cons_succ]
        refine wpMix_off _ at13 rfl ?_ ?_
        · exact fun _ _ _ h => h
        simp only [Act.put, List.setIfInBounds_toArray, List.set_cons_zero, List.set_cons_succ]
        refine wpMix_skip _ at11 rfl ?_
        simp only [Act.put, List.setIfInBounds_toArray, List.set_cons_zero, List.set_cons_succ]
        refine wpMix_skip _ at14 rfl ?_
        simp only [Act.put, List.setIfInBounds_toArray, List.set_cons_zero, List.set_cons_succ]
        refine wpMix_off _ at15 rfl ?_ ?_
        · exact fun _ _ _ h => h
        simp only [Act.put, List.setIfInBounds_toArray, List.set_cons_zero, List.set_cons_succ]
        refine wpMix_off _ at16 rfl ?_ ?_
        · exact fun _ _ _ h => h
        simp only [Act.put, List.setIfInBounds_toArray, List.set_cons_zero, List.set_cons_succ]
        refine wpMix_off _ at17 rfl ?_ ?_
        · exact fun _ _ _ h => h
        simp only [Act.put, List.setIfInBounds_toArray, List.set_cons_zero, List.set_cons_succ]
        refine wpMix_off _ at18 rfl ?_ ?_
        · exact fun _ _ _ h => h
        simp only [Act.put, List.setIfInBounds_toArray, List.set_cons_zero, List.set_cons_succ]
        refine wpMix_off _ at20 rfl ?_ ?_
        · exact fun _ _ _ h => h
        simp only [Act.put, List.setIfInBounds_toArray, List.set_cons_zero, List.set_cons_succ]
        refine wpMix_off _ at21 rfl ?_ ?_
        · exact fun _ _ _ h => h
        simp only [Act.put, List.setIfInBounds_toArray, List.set_cons_zero, List.set_cons_succ]
        refine wpMix_skip _ at19 rfl ?_
        simp only [Act.put, List.setIfInBounds_toArray, List.set_cons_zero, List.set_cons_succ]
        refine wpMix_skip _ at22 rfl ?_
        simp only [Act.put, List.setIfInBounds_toArray, List.set_cons_zero, List.set_cons_succ]
        refine wpMix_off _ at23 rfl ?_ ?_
        · exact fun _ _ _ h => h
        simp only [Act.put, List.setIfInBounds_toArray, List.set_cons_zero, List.set_cons_succ]
        refine wpMix_off _ at24 rfl ?_ ?_
        · exact fun _ _ _ h => h
        simp only [Act.put, List.setIfInBounds_toArray, List.set_cons_zero, List.set_cons_succ]
        refine wpMix_nil ?_
        simp only [List.drop_succ_cons, List.drop_zero]
        go_wp2_with fail
        go_meet
        exact ⟨by first | rfl | simp, J3.a.old⟩
      | true =>
        rw [hsb] at HSb
        obtain ⟨s1, s2, s3, s4⟩ := small_in hsa
        obtain ⟨t1, t2, t3, t4⟩ := small_in hsb
        clear hsa hsb
        obtain ⟨p1, rfl⟩ := Int.eq_ofNat_of_zero_le s1
        obtain ⟨p2, rfl⟩ := Int.eq_ofNat_of_zero_le (show 0 ≤ aD by omega)
        obtain ⟨q1, rfl⟩ := Int.eq_ofNat_of_zero_le t1
        obtain ⟨q2, rfl⟩ := Int.eq_ofNat_of_zero_le (show 0 ≤ bD by omega)
        have m1 := mul_small (a := p1) (b := q2) (by omega) (by omega)
        have m2 := mul_small (a := q1) (b := p2) (by omega) (by omega)
        have m3 := mul_small (a := p2) (b := q2) (by omega) (by omega)
        have m4 := mul_small (a := p1) (b := q1) (by omega) (by omega)
        have HAd : Hid (∀ W, AB w p1 p2 q1 q2 W → Calls Tryz.prog 6 #[.agg #[.int .i64 p1, .int .i64 p2], .agg #[.int .i64 q1, .int .i64 q2]] W fun e w' => e = .returned (.agg #[.int .i64 ((Pt.sumP (p1, p2) (q1, q2)).1 : Nat), .int .i64 ((Pt.sumP (p1, p2) (q1, q2)).2 : Nat)]) ∧ Below W.heap.size W w' ∧ AB w p1 p2 q1 q2 w') := Lib.hid fun W hW => (add_any p1 p2 q1 q2 W (by omega) (by omega) (by omega) (by omega)).mono fun e w' hh => ⟨hh.1, hh.2, hW.on hh.2⟩
        have HSm : Hid (∀ W, AB w p1 p2 q1 q2 W → Calls Tryz.prog 7 #[.agg #[.int .i64 p1, .int .i64 p2], .agg #[.int .i64 q1, .int .i64 q2]] W fun e w' => e = .returned (.agg #[.int .i64 ((Pt.sumP (p1, p2) (q1, q2)).1 : Nat), .int .i64 ((Pt.sumP (p1, p2) (q1, q2)).2 : Nat)]) ∧ Below W.heap.size W w' ∧ AB w p1 p2 q1 q2 w') := Lib.hid fun W hW => (sumR_any p1 p2 q1 q2 W (by omega) (by omega) (by omega) (by omega)).mono fun e w' hh => ⟨hh.1, hh.2, hW.on hh.2⟩
        have HTm : Hid (∀ W, AB w p1 p2 q1 q2 W → Calls Tryz.prog 8 #[.agg #[.int .i64 p1, .int .i64 p2], .agg #[.int .i64 q1, .int .i64 q2]] W fun e w' => e = .returned (.agg #[.int .i64 ((Pt.timP (p1, p2) (q1, q2)).1 : Nat), .int .i64 ((Pt.timP (p1, p2) (q1, q2)).2 : Nat)]) ∧ Below W.heap.size W w' ∧ AB w p1 p2 q1 q2 w') := Lib.hid fun W hW => (times_any p1 p2 q1 q2 W (by omega) (by omega) (by omega) (by omega)).mono fun e w' hh => ⟨hh.1, hh.2, hW.on hh.2⟩
        have HTr : Hid (∀ W, AB w p1 p2 q1 q2 W → Calls Tryz.prog 5 #[.agg #[.int .i64 p1, .int .i64 p2], .agg #[.int .i64 q1, .int .i64 q2]] W fun e w' => e = .returned (.agg #[.int .i64 ((Pt.timP (p1, p2) (q1, q2)).1 : Nat), .int .i64 ((Pt.timP (p1, p2) (q1, q2)).2 : Nat)]) ∧ Below W.heap.size W w' ∧ AB w p1 p2 q1 q2 w') := Lib.hid fun W hW => (timesR_any p1 p2 q1 q2 W (by omega) (by omega) (by omega) (by omega)).mono fun e w' hh => ⟨hh.1, hh.2, hW.on hh.2⟩
        generalize Pt.sumP (p1, p2) (q1, q2) = sm at *
        generalize Pt.timP (p1, p2) (q1, q2) = tm at *
        clear m1 m2 m3 m4
        go_wp2_with fail
        go_region_held3 (fun w' => w'.cell? ⟨w.heap.size, 0, none⟩ = some (.int .i64 p1) ∧ w'.cell? ⟨w.heap.size, 1, none⟩ = some (.int .i64 p2) ∧ w'.cell? ⟨w.heap.size + 1, 0, none⟩ = some (.int .i64 q1) ∧ w'.cell? ⟨w.heap.size + 1, 1, none⟩ = some (.int .i64 q2))
          (first | exact ⟨a0, a1, b0, b1⟩ | exact ⟨J7.a.c0, J7.a.c1, J7.b.c0, J7.b.c1⟩ | exact ⟨J6.a.c0, J6.a.c1, J6.b.c0, J6.b.c1⟩ | exact ⟨J5.a.c0, J5.a.c1, J5.b.c0, J5.b.c1⟩ | exact ⟨J4.a.c0, J4.a.c1, J4.b.c0, J4.b.c1⟩ | exact ⟨J3.a.c0, J3.a.c1, J3.b.c0, J3.b.c1⟩ | exact ⟨J2.a.c0, J2.a.c1, J2.b.c0, J2.b.c1⟩ | go_keep)
          (first
            | (go_at_call 4; (with_reducible refine (HSa.out _ J1).mono ?_); rintro e w2 ⟨rfl, hq2, J2⟩)
            | (go_at_call 4; (with_reducible refine (HSb.out _ J2).mono ?_); rintro e w3 ⟨rfl, hq3, J3⟩)
            | (go_at_call 6; (with_reducible refine (HAd.out _ J3).mono ?_); rintro e w4 ⟨rfl, hq4, J4⟩)
            | (go_at_call 7; (with_reducible refine (HSm.out _ J4).mono ?_); rintro e w5 ⟨rfl, hq5, J5⟩)
            | (go_at_call 8; (with_reducible refine (HTm.out _ J5).mono ?_); rintro e w6 ⟨rfl, hq6, J6⟩)
            | (go_at_call 5; (with_reducible refine (HTr.out _ J6).mono ?_); rintro e w7 ⟨rfl, hq7, J7⟩))
        all_goals
          go_wp2_with fail
          go_meet
          exact ⟨by first | rfl | simp, J7.a.old⟩
  case rest =>
  obtain ⟨rfl, hold⟩ := hcut
  clear HSa HSb J0 J1 ha1 ha2 ha3 ha4 hb1 hb2 hb3 hb4
  generalize wc = V0 at *
  go_wp2
  go_loop [12, 48] (fun s12 t => ∃ k : Nat, k ≤ N ∧ t = .int .i64 k ∧ s12 = .int .i64 (mostK l k : Nat)) (fun _ t => N - (intOf t).toNat)
  case atStart => exact ⟨0, Nat.zero_le _, rfl, rfl⟩
  case round =>
    obtain ⟨k, hk, rfl, rfl⟩ := hrel
    by_cases hlt : k < N
    · have hlz : (k : Int) < (N : Int) := by omega
      obtain ⟨b, o, rfl, d1⟩ := HA.out V0 hold k hlt
      have e1 := HS.out k hlt
      have HE1 := Lib.hid e1
      clear e1 HI HW HRl HRs HA HS HE HMk HLk HAl HLo HNl
      generalize l.getD k 0 = y at *
      generalize hmm : mostK l (k + 1) = m1 at *
      have HM1 := Lib.hid hmm
      clear hmm
      generalize mostK l k = m0 at *
      go_wp2
      all_goals
        go_round
        case rel => exact ⟨k + 1, by omega, by go_num, by rw [HM1.out, HE1.out]⟩
        case measure => simp [intOf]; omega
    · obtain rfl : k = N := by omega
      rw [HE.out]
      clear HA HS HE hlt hk
      go_wp2_with fail
      with_reducible refine (HI.out V0 hold).mono ?_
      rintro e w1 ⟨rfl, hq1⟩
      have hold1 := hold.trans (hq1.mono hold.size)
      clear HI hq1 hold
      cases hgd : En.good l with
      | false =>
        clear HRl HRs HMk HLk HAl HLo
        go_wp2_with fail
        with_reducible refine (HW.out _).mono ?_
        rintro e w2 ⟨rfl, hq2⟩
        have hold2 := hold1.trans (hq2.mono hold1.size)
        clear HW hold1 hq2
        go_wp2
        go_ret
        exact ⟨rfl, hold2⟩
      | true =>
        have HMk1 := Lib.hid (HMk.out hgd)
        have HLo1 := Lib.hid (HLo.out hgd)
        clear HMk HLo hgd
        generalize hmm : En.most l = m at *
        have Hm := Lib.hid hmm
        clear hmm
        by_cases hcond : 101 < k ∨ 100 < m ∨ 50 < n
        · clear HRl HRs HMk1 HLk HAl HLo1
          by_cases h1 : 101 < k
          · have z1 : (101 : Int) < (k : Int) := by omega
            go_wp2_with fail
            with_reducible refine (HW.out _).mono ?_
            rintro e w2 ⟨rfl, hq2⟩
            have hold2 := hold1.trans (hq2.mono hold1.size)
            clear HW hold1 hq2
            go_wp2
            go_ret
            exact ⟨rfl, hold2⟩
          · have z1 : ¬ ((101 : Int) < (k : Int)) := by omega
            by_cases h2 : 100 < m
            · have z2 : (100 : Int) < (m : Int) := by omega
              go_wp2_with fail
              with_reducible refine (HW.out _).mono ?_
              rintro e w2 ⟨rfl, hq2⟩
              have hold2 := hold1.trans (hq2.mono hold1.size)
              clear HW hold1 hq2
              go_wp2
              go_ret
              exact ⟨rfl, hold2⟩
            · have z2 : ¬ ((100 : Int) < (m : Int)) := by omega
              have z3 : (50 : Int) < (n : Int) := by omega
              go_wp2_with fail
              with_reducible refine (HW.out _).mono ?_
              rintro e w2 ⟨rfl, hq2⟩
              have hold2 := hold1.trans (hq2.mono hold1.size)
              clear HW hold1 hq2
              go_wp2
              go_ret
              exact ⟨rfl, hold2⟩
        · have z1 : ¬ ((101 : Int) < (k : Int)) := by omega
          have z2 : ¬ ((100 : Int) < (m : Int)) := by omega
          have z3 : ¬ ((50 : Int) < (n : Int)) := by omega
          have HMk2 := Lib.hid (HMk1.out (by omega) (by omega))
          have HLo2 := Lib.hid (HLo1.out (by omega) (by omega))
          have hR1 := HRl.out w1 hold1
          clear HMk1 HLo1 HRl
          go_wp2_with (at_builtin; refine wpList_copy_cap _ rfl _ _ 22 rfl 3 (.int .i64 0) 8 Tryz.underlying22 infoInt4 rfl A k c (fun k => .int .i64 (l.getD k 0)) rfl rfl hR1 (fun _ _ => rfl) (by unfold maxLen; omega) (by omega) ?_; intro A' c' w2 hc' hr' hb')
          with_reducible refine (HMk2.out _ _ _ hr' hc').mono ?_
          rintro e w3 ⟨E, L, S, cE, cL, cS, rfl, hE, hL, hC, hb3⟩
          have hold2 := hold1.trans (hb'.mono hold1.size)
          have hold3 := hold2.trans (hb3.mono hold2.size)
          have J0 : CB w w3.heap.size E L S cE cL cS k (m + 2) l (w3.alloc (.cells #[.slice E k cE, .int .i64 k, .int .i64 10, .slice L 10 cL, .slice S (m + 2) cS] 33)) := CB.start hC HNl.out (by rw [Hm.out]) hE hL hold3 33
          clear HMk2 hC hb3 hr' hb' hold1 hold2 hold3 hR1 hE hL z1 z2 z3
          go_wp2_with fail
          generalize w3.alloc (.cells #[.slice E k cE, .int .i64 k, .int .i64 10, .slice L 10 cL, .slice S (m + 2) cS] 33) = V at *
          generalize w3.heap.size = B at *
          have J1 := J0.drew
          refine wp_region_mix 14 [(true, 0), (true, 1), (true, 2), (true, 3), (true, 4), (true, 6), (true, 8), (true, 9), (true, 10), (true, 11), (false, 5), (false, 7), (false, 12), (true, 13)] (fun w' => w'.cell? ⟨B, 0, none⟩ = some (.slice E k cE) ∧ w'.cell? ⟨B, 1, none⟩ = some (.int .i64 k) ∧ w'.cell? ⟨B, 2, none⟩ = some (.int .i64 10) ∧ w'.cell? ⟨B, 3, none⟩ = some (.slice L 10 cL) ∧ w'.cell? ⟨B, 4, none⟩ = some (.slice S (m + 2) cS)) (by kernel_rfl) (by kernel_rfl) ⟨J1.c0, J1.c1, J1.c2, J1.c3, J1.c4⟩ ?_
          refine wpMix_on (v := ?_) _ at0 rfl ?_ ?_ ?_
          rotate_left 1
          · rintro W ⟨x0, x1, x2, x3, x4⟩
            go_simp
            rfl
          · exact fun _ _ _ h => h
          simp only [Act.put, List.setIfInBounds_toArray, List.set_cons_zero, List.set_cons_succ]
          refine wpMix_on (v := ?_) _ at1 rfl ?_ ?_ ?_
          rotate_left 1
          · rintro W ⟨x0, x1, x2, x3, x4⟩
            go_simp
            rfl
          · exact fun _ _ _ h => h
          simp only [Act.put, List.setIfInBounds_toArray, List.set_cons_zero, List.set_cons_succ]
          refine wpMix_on (v := ?_) _ at2 rfl ?_ ?_ ?_
          rotate_left 1
          · rintro W ⟨x0, x1, x2, x3, x4⟩
            go_simp
            rfl
          · exact fun _ _ _ h => h
          simp only [Act.put, List.setIfInBounds_toArray, List.set_cons_zero, List.set_cons_succ]
          refine wpMix_on (v := ?_) _ at3 rfl ?_ ?_ ?_
          rotate_left 1
          · rintro W ⟨x0, x1, x2, x3, x4⟩
            go_simp
            rfl
          · exact fun _ _ _ h => h
          simp only [Act.put, List.setIfInBounds_toArray, List.set_cons_zero, List.set_cons_succ]
          refine wpMix_on (v := ?_) _ at4 rfl ?_ ?_ ?_
          rotate_left 1
          · rintro W ⟨x0, x1, x2, x3, x4⟩
            go_simp
            rfl
          · exact fun _ _ _ h => h
          simp only [Act.put, List.setIfInBounds_toArray, List.set_cons_zero, List.set_cons_succ]
          refine wpMix_on (v := ?_) _ at6 rfl ?_ ?_ ?_
          rotate_left 1
          · rintro W ⟨x0, x1, x2, x3, x4⟩
            go_simp
            rfl
          · exact fun _ _ _ h => h
          simp only [Act.put, List.setIfInBounds_toArray, List.set_cons_zero, List.set_cons_succ]
          refine wpMix_on (v := ?_) _ at8 rfl ?_ ?_ ?_
          rotate_left 1
          · rintro W ⟨x0, x1, x2, x3, x4⟩
            go_simp
            rfl
          · exact fun _ _ _ h => h
          simp only [Act.put, List.setIfInBounds_toArray, List.set_cons_zero, List.set_cons_succ]
          refine wpMix_on (v := ?_) _ at9 rfl ?_ ?_ ?_
          rotate_left 1
          · rintro W ⟨x0, x1, x2, x3, x4⟩
            go_simp
            rfl
          · exact fun _ _ _ h => h
          simp only [Act.put, List.setIfInBounds_toArray, List.set_cons_zero, List.set_cons_succ]
          refine wpMix_on (v := ?_) _ at10 rfl ?_ ?_ ?_
          rotate_left 1
          · rintro W ⟨x0, x1, x2, x3, x4⟩
            go_simp
            rfl
          · exact fun _ _ _ h => h
          simp only [Act.put, List.setIfInBounds_toArray, List.set_cons_zero, List.set_cons_succ]
          refine wpMix_on (v := ?_) _ at11 rfl ?_ ?_ ?_
          rotate_left 1
          · rintro W ⟨x0, x1, x2, x3, x4⟩
            go_simp
            rfl
          · exact fun _ _ _ h => h
          simp only [Act.put, List.setIfInBounds_toArray, List.set_cons_zero, List.set_cons_succ]
          refine wpMix_call _ at5 rfl fun K' hK' => ?_
          refine oper_app_row V.drew (.const (.slice none 0 0)) (.tmp 84) 22 rfl V.heap.size 3 (.int .i64 0) 8 Tryz.underlying22 infoInt4 rfl (.slice none 0 0) 0 [] rfl (World.ownsRow_nil _ _ _ _) A2 n c2 (fun i => .int .i64 (s.getD i 0)) rfl (HRs.out _ J1.old) (fun _ _ => rfl) (by unfold maxLen; omega) (by omega) (Nat.le_refl _) ?_
          intro v5 w5 h5 g5 _
          have hB5 : Below V.heap.size V w5 := ((Below.refl V.heap.size V).drew).grown g5 (Nat.le_refl _) (fun g hg => by cases hg)
          rw [Nat.zero_add, List.nil_append] at h5
          have J5 := J0.on hB5
          obtain ⟨X, cx, hv5, hcx⟩ := own_slice h5
          subst hv5
          have hX := Row.of_owns h5
          refine hK'.out _ _ ⟨J5.c0, J5.c1, J5.c2, J5.c3, J5.c4⟩ ?_
          clear hK' g5 h5 hB5 J0 J1
          simp only [Act.put, List.setIfInBounds_toArray, List.set_cons_zero, List.set_cons_succ]
          refine wpMix_call _ at7 rfl fun K' hK' => ?_
          go_simp
          go_at_call 12
          refine (HLk.out _ _ _ _ _ _ _ _ _ _ _ J5 (by omega) hX hcx).mono ?_
          rintro e w6 ⟨rfl, J6⟩
          refine hK'.out _ _ ⟨J6.c0, J6.c1, J6.c2, J6.c3, J6.c4⟩ ?_
          clear hK' J5 hX HLk
          refine wpMix_call _ at12 rfl fun K' hK' => ?_
          go_simp
          go_at_call 13
          refine (HLo2.out _ _ J6.old).mono ?_
          rintro e w7 ⟨rfl, hb7⟩
          have J7 := J6.on hb7
          refine hK'.out _ _ ⟨J7.c0, J7.c1, J7.c2, J7.c3, J7.c4⟩ ?_
          clear hK' J6 hb7
          refine wpMix_on (v := ?_) _ at13 rfl ?_ ?_ ?_
          rotate_left 1
          · rintro W ⟨x0, x1, x2, x3, x4⟩
            go_simp
            rfl
          · exact fun _ _ _ h => h
          simp only [Act.put, List.setIfInBounds_toArray, List.set_cons_zero, List.set_cons_succ]
          refine wpMix_nil ?_
          simp only [List.drop_succ_cons, List.drop_zero]
          go_wp2
          have J8 := J7.drew
          refine wp_region_takes 4 [0, 1] [2, 3] (fun w' => w'.cell? ⟨B, 0, none⟩ = some (.slice E k cE) ∧ w'.cell? ⟨B, 1, none⟩ = some (.int .i64 k) ∧ w'.cell? ⟨B, 2, none⟩ = some (.int .i64 10) ∧ w'.cell? ⟨B, 3, none⟩ = some (.slice L 10 cL) ∧ w'.cell? ⟨B, 4, none⟩ = some (.slice S (m + 2) cS)) (by kernel_rfl) (by kernel_rfl) ⟨J8.c0, J8.c1, J8.c2, J8.c3, J8.c4⟩ ?_
          refine wpTakes_cons (v := ?_) _ at0 rfl ?_ ?_ ?_
          rotate_left 1
          · rintro W ⟨x0, x1, x2, x3, x4⟩
            go_simp
            rfl
          · exact fun _ _ _ h => h
          simp only [Act.put, List.setIfInBounds_toArray, List.set_cons_zero, List.set_cons_succ]
          refine wpTakes_cons (v := ?_) _ at1 rfl ?_ ?_ ?_
          rotate_left 1
          · rintro W ⟨x0, x1, x2, x3, x4⟩
            go_simp
            rfl
          · exact fun _ _ _ h => h
          simp only [Act.put, List.setIfInBounds_toArray, List.set_cons_zero, List.set_cons_succ]
          refine wpTakes_nil (wpCalls_cons _ at2 rfl fun K' hK' => ?_)
          refine oper_app_row w7.drew (.const (.slice none 0 0)) (.tmp 96) 22 rfl w7.heap.size 3 (.int .i64 0) 8 Tryz.underlying22 infoInt4 rfl (.slice none 0 0) 0 [] rfl (World.ownsRow_nil _ _ _ _) A2 n c2 (fun i => .int .i64 (s.getD i 0)) rfl (HRs.out _ J8.old) (fun _ _ => rfl) (by unfold maxLen; omega) (by omega) (Nat.le_refl _) ?_
          intro v9 w9 h9 g9 _
          have hB9 : Below w7.heap.size w7 w9 := ((Below.refl w7.heap.size w7).drew).grown g9 (Nat.le_refl _) (fun g hg => by cases hg)
          rw [Nat.zero_add, List.nil_append] at h9
          have J9 := J7.on hB9
          obtain ⟨X9, cx9, hv9, hcx9⟩ := own_slice h9
          subst hv9
          have hX9 := Row.of_owns h9
          refine hK'.out _ _ ⟨J9.c0, J9.c1, J9.c2, J9.c3, J9.c4⟩ ?_
          clear hK' g9 h9 hB9 J7 J8 HRs
          simp only [Act.put, List.setIfInBounds_toArray, List.set_cons_zero, List.set_cons_succ]
          refine wpCalls_cons _ at3 rfl fun K' hK' => ?_
          go_simp
          go_at_call 14
          refine (HAl.out _ _ _ _ _ _ _ _ _ _ _ J9 (by omega) hX9 hcx9).mono ?_
          rintro e w10 ⟨g, rfl, hP, _, hb10⟩
          have J10 := J9.on hb10
          refine hK'.out _ _ ⟨J10.c0, J10.c1, J10.c2, J10.c3, J10.c4⟩ (wpCalls_nil ?_)
          have hold10 := J10.old
          clear hK' J9 hX9 HAl J10 hb10
          simp only [List.drop_succ_cons, List.drop_zero]
          rw [Hm.out] at hP ⊢
          have zz : ((m : Int) != (m : Int)) = false := by simp
          go_wp2
          go_loopw [105] (fun t W => ∃ i : Nat, i ≤ m ∧ t = .int .i64 i ∧ W.rowIs g 24 (m * 2) (ptF (fun i => Pt.lik l s ((i + 1 : Nat) : Int)) m) ∧ Below w.heap.size w W) (fun t _ => m - (intOf t).toNat)
          case atStart => exact ⟨0, Nat.zero_le _, rfl, hP, hold10⟩
          case round =>
            obtain ⟨i, hi, rfl, hP1, hold11⟩ := hrel
            clear hP hold10 zz
            generalize wr = V1 at *
            by_cases hlt : i < m
            · have hlz : (i : Int) < (m : Int) := by omega
              obtain ⟨d0, d1⟩ := parts_at hP1 hlt hlt
              have HLi := Lib.hid (HLo2.out ((i : Int) + 1))
              rw [show (i : Int) + 1 = ((i + 1 : Nat) : Int) from by omega] at HLi
              generalize hq : Pt.lik l s ((i + 1 : Nat) : Int) = q at *
              clear hq
              rw [show ((i + 1 : Nat) : Int) = (i : Int) + 1 from by omega] at HLi
              have Q0 := Bx2.new hold11 (.int .i64 (q.1 : Nat)) (.int .i64 (q.2 : Nat)) 24
              have hP2 := hP1.alloc (.cells #[.int .i64 (q.1 : Nat), .int .i64 (q.2 : Nat)] 24)
              clear HLo2 HW hP1
              go_wp2
              clear d0 d1
              generalize V1.alloc (.cells #[.int .i64 (q.1 : Nat), .int .i64 (q.2 : Nat)] 24) = V2 at *
              generalize V1.heap.size = Bp at *
              have Q1 := Q0.drew
              have v1 : IntKind.i64.wrap ((i : Int) + 1) = (i : Int) + 1 := w64 _ (by omega) (by omega)
              refine wp_region_takes 7 [0, 1, 2, 3, 4, 5] [6] (fun w' => w'.cell? ⟨Bp, 0, none⟩ = some (.int .i64 (q.1 : Nat)) ∧ w'.cell? ⟨Bp, 1, none⟩ = some (.int .i64 (q.2 : Nat))) (by kernel_rfl) (by kernel_rfl) ⟨Q1.c0, Q1.c1⟩ ?_
              refine wpTakes_cons (v := ?_) _ at0 rfl ?_ ?_ ?_
              rotate_left 1
              · rintro W ⟨x0, x1⟩
                go_simp
                rfl
              · exact fun _ _ _ h => h
              simp only [Act.put, List.setIfInBounds_toArray, List.set_cons_zero, List.set_cons_succ]
              refine wpTakes_cons (v := ?_) _ at1 rfl ?_ ?_ ?_
              rotate_left 1
              · rintro W ⟨x0, x1⟩
                go_simp
                rfl
              · exact fun _ _ _ h => h
              simp only [Act.put, List.setIfInBounds_toArray, List.set_cons_zero, List.set_cons_succ]
              refine wpTakes_cons (v := ?_) _ at2 rfl ?_ ?_ ?_
              rotate_left 1
              · rintro W ⟨x0, x1⟩
                go_simp
                rfl
              · exact fun _ _ _ h => h
              simp only [Act.put, List.setIfInBounds_toArray, List.set_cons_zero, List.set_cons_succ]
              refine wpTakes_cons (v := ?_) _ at3 rfl ?_ ?_ ?_
              rotate_left 1
              · rintro W ⟨x0, x1⟩
                go_simp
                rfl
              · exact fun _ _ _ h => h
              simp only [Act.put, List.setIfInBounds_toArray, List.set_cons_zero, List.set_cons_succ]
              refine wpTakes_cons (v := ?_) _ at4 rfl ?_ ?_ ?_
              rotate_left 1
              · rintro W ⟨x0, x1⟩
                go_simp
                rfl
              · exact fun _ _ _ h => h
              simp only [Act.put, List.setIfInBounds_toArray, List.set_cons_zero, List.set_cons_succ]
              refine wpTakes_cons (v := ?_) _ at5 rfl ?_ ?_ ?_
              rotate_left 1
              · rintro W ⟨x0, x1⟩
                go_simp
                rfl
              · exact fun _ _ _ h => h
              simp only [Act.put, List.setIfInBounds_toArray, List.set_cons_zero, List.set_cons_succ]
              refine wpTakes_nil (wpCalls_cons _ at6 rfl fun K' hK' => ?_)
              go_simp
              go_at_call 13
              refine (HLi.out _ Q1.old).mono ?_
              rintro e w12 ⟨rfl, hb12⟩
              have Q2 := Q1.on hb12
              have hP3 : w12.rowIs g 24 (m * 2) (ptF (fun i => Pt.lik l s ((i + 1 : Nat) : Int)) m) := hP2.drew.of_block (hb12.block _ hP2.lt)
              refine hK'.out _ _ ⟨Q2.c0, Q2.c1⟩ (wpCalls_nil ?_)
              have hold13 := Q2.old
              clear hK' Q0 Q1 Q2 hP2 hb12 HLi v1
              simp only [List.drop_succ_cons, List.drop_zero]
              go_wp2
              go_roundw
              case rel => exact ⟨i + 1, by omega, by go_num, hP3, hold13⟩
              case measure => simp [intOf]; omega
            · obtain rfl : i = m := by omega
              clear HLo2 hP1
              go_wp2_with fail
              with_reducible refine (HW.out _).mono ?_
              rintro e w12 ⟨rfl, hb12⟩
              have hold12 := hold11.trans (hb12.mono hold11.size)
              clear HW hold11 hb12
              go_wp2
              go_ret
              exact ⟨rfl, hold12⟩

end Go.Proofs.YtffhphcgmgkgbabGreatDoor
