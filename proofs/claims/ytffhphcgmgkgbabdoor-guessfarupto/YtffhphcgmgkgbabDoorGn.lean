/- The walk of the law GuessFar. -/
import Derived.Test.YtffhphcgmgkgbabDoorGk
import Derived.Test.YtffhphcgmgkgbabDoorAr
namespace Go.Proofs.YtffhphcgmgkgbabDoor
open Go.RowKit
attribute [local irreducible] Bt.pop Bt.popF

namespace Pt
theorem last2_app (a b : List Int) (h : 2 ≤ b.length) : last2 (a ++ b) = last2 b := by
  unfold last2
  rw [List.length_append, show a.length + b.length - 2 = a.length + (b.length - 2) from by omega, List.drop_append, List.drop_eq_nil_of_le (by omega)]
  simp
theorem lik_far (l a b : List Int) (x : Int) (h : 2 ≤ b.length) : lik l (a ++ b) x = lik l b x := by unfold lik; rw [last2_app a b h]
end Pt

/-- a row of two lists, one behind the other -/
theorem own_two {W : World} {base n m : Nat} {v : Value} {a b : List Int} (hn : a.length = n) (hm : b.length = m) (h : W.ownsRow base 3 1 v (n + m) ((List.range n).map (fun i => Value.int .i64 (a.getD i 0)) ++ (List.range m).map (fun i => Value.int .i64 (b.getD i 0)))) : ∃ X cx, v = .slice X (n + m) cx ∧ n + m ≤ cx ∧ IRow W W.heap.size X (a ++ b) := by
  subst hn hm
  rw [← map_range_getD a (0 : Int) (Value.int .i64), ← map_range_getD b (0 : Int) (Value.int .i64), ← List.map_append] at h
  obtain ⟨X, cx, rfl, hc⟩ := own_slice h
  obtain ⟨h2, h3⟩ := own_row (0 : Int) h
  refine ⟨X, cx, rfl, hc, ?_⟩
  unfold IRow
  rw [← h2]
  exact h3

set_option maxRecDepth 100000 in
set_option maxHeartbeats 4000000 in
theorem guessFar_any (A A2 A3 : Option Addr) (c c2 c3 : Nat) (x : Int) (l s r : List Int) (w : World) (hg : NG w) (hr : IRow w w.heap.size A l) (hr2 : IRow w w.heap.size A2 s) (hr3 : IRow w w.heap.size A3 r) (hcap : l.length ≤ c) (hcap2 : s.length ≤ c2) (hn : l.length ≤ 17592186043904) (hs : r.length + s.length ≤ 17592186044416) :
    Calls Tryd.prog 4 #[.slice A l.length c, .slice A2 s.length c2, .slice A3 r.length c3, .int .i64 x] w fun e w' => e = .returned (.bool true) ∧ Below w.heap.size w w' := by
  have HM := Lib.hid (combMake_all A c l.length l w hr rfl hcap (by omega))
  have HW := Lib.hid (fun W => guessesK_any W)
  have HA : Hid (∀ i, i < l.length → ∃ b o, A = some ⟨b, o, none⟩ ∧ w.cell? ⟨b, o + i, none⟩ = some (.int .i64 (l.getD i 0))) := Lib.hid fun i hi => by
    obtain ⟨b, o, e, _, hc⟩ := hr (by omega)
    exact ⟨b, o, e, hc i hi⟩
  have HR2 : Hid (∀ W, Below w.heap.size w W → IRow W W.heap.size A2 s) := Lib.hid fun W hW => hr2.on hW
  have HR2' : Hid (∀ W, Below w.heap.size w W → Row W W.heap.size A2 s.length (fun k => .int .i64 (s.getD k 0))) := Lib.hid fun W hW => hr2.on hW
  have HR3' : Hid (∀ W, Below w.heap.size w W → Row W W.heap.size A3 r.length (fun k => .int .i64 (r.getD k 0))) := Lib.hid fun W hW => hr3.on hW
  have HTw : Hid (∀ W base v, W.ownsRow base 3 1 v (r.length + s.length) ((List.range r.length).map (fun i => Value.int .i64 (r.getD i 0)) ++ (List.range s.length).map (fun i => Value.int .i64 (s.getD i 0))) → ∃ X cx, v = .slice X (r.length + s.length) cx ∧ r.length + s.length ≤ cx ∧ IRow W W.heap.size X (r ++ s)) := Lib.hid fun W base v h => own_two rfl rfl h
  have HS := Lib.hid (mostK_succ l)
  have HE := Lib.hid (mostK_end l)
  have HLk : Hid (∀ (B : Nat) (E L S : Option Addr) (cE cL cS N M : Nat) W, CB w B E L S cE cL cS N M l W → N ≤ 101 → IRow W W.heap.size A2 s → Calls Tryd.prog 9 #[.agg #[.slice E N cE, .int .i64 N, .int .i64 10, .slice L 10 cL, .slice S M cS], .slice A2 s.length c2, .int .i64 x] W fun e w' => e = .returned (.agg #[.int .i64 ((Pt.lik l s x).1 : Nat), .int .i64 ((Pt.lik l s x).2 : Nat)]) ∧ CB w B E L S cE cL cS N M l w') := Lib.hid fun B E L S cE cL cS N M W hW hN hI =>
    (likelyF_any E L S A2 cE cL cS N M c2 s.length x l s W (hg.on hW.old) hW.cmb hW.len hW.num hW.capE hW.capL hI rfl hcap2 (by omega) (by have := hW.len; omega)).mono fun e w' hh => And.intro hh.1 (hW.on hh.2)
  have HLf : Hid (∀ (B : Nat) (E L S X : Option Addr) (cE cL cS N M cx : Nat) W, CB w B E L S cE cL cS N M l W → N ≤ 101 → 2 ≤ s.length → IRow W W.heap.size X (r ++ s) → r.length + s.length ≤ cx → Calls Tryd.prog 9 #[.agg #[.slice E N cE, .int .i64 N, .int .i64 10, .slice L 10 cL, .slice S M cS], .slice X (r.length + s.length) cx, .int .i64 x] W fun e w' => e = .returned (.agg #[.int .i64 ((Pt.lik l s x).1 : Nat), .int .i64 ((Pt.lik l s x).2 : Nat)]) ∧ CB w B E L S cE cL cS N M l w') := Lib.hid fun B E L S X cE cL cS N M cx W hW hN h2 hI hcx => by
    have h := likelyF_any E L S X cE cL cS N M cx (r.length + s.length) x l (r ++ s) W (hg.on hW.old) hW.cmb hW.len hW.num hW.capE hW.capL hI (by simp) hcx (by omega) (by have := hW.len; omega)
    rw [Pt.lik_far l r s x h2] at h
    exact h.mono fun e w' hh => And.intro hh.1 (hW.on hh.2)
  clear hr hr2 hr3 hcap hcap2 hg
  generalize Pt.lik l s x = q at *
  generalize hN : l.length = N at *
  have HN := Lib.hid hN
  clear hN
  generalize s.length = n2 at *
  generalize r.length = n3 at *
  go_enter Tryd.func4, Tryd.ntmps4
  go_wp2
  go_loop [9, 16] (fun s9 t => ∃ k : Nat, k ≤ N ∧ t = .int .i64 k ∧ s9 = .int .i64 (mostK l k : Nat)) (fun _ t => N - (intOf t).toNat)
  case atStart => exact ⟨0, Nat.zero_le _, rfl, rfl⟩
  case round =>
    obtain ⟨k, hk, rfl, rfl⟩ := hrel
    by_cases hlt : k < N
    · have hlz : (k : Int) < (N : Int) := by omega
      obtain ⟨b, o, rfl, d1⟩ := HA.out k hlt
      have e1 := HS.out k hlt
      have HE1 := Lib.hid e1
      clear e1 HM HW HA HR2 HR2' HR3' HTw HS HE HLk HLf HN
      generalize l.getD k 0 = y at *
      generalize hmm : mostK l (k + 1) = m1 at *
      have HM1 := Lib.hid hmm
      clear hmm
      generalize mostK l k = m0 at *
      go_wp2
      all_goals
        go_round
        case rel => exact ⟨k + 1, by omega, by go_num, by rw [HM1.out, HE1.out]⟩
        case measure => simp [intOf]; omega
    · obtain rfl : k = N := by omega
      rw [HE.out]
      clear HA HS HE hlt hk
      go_wp2_with fail
      with_reducible refine HM.out.mono ?_
      rintro e w1 (⟨rfl, hb1⟩ | ⟨E, L, S, cE, cL, cS, rfl, hE, hL, hC, hb1⟩)
      · have hb2 := hb1.alloc hb1.size (.cells #[.slice none 0 0, .int .i64 0, .int .i64 0, .slice none 0 0, .slice none 0 0] 27)
        clear HM HLk HLf HR2 HR2' HR3' HTw hb1
        go_wp2_with fail
        with_reducible refine (HW.out _).mono ?_
        rintro e w2 ⟨rfl, hb3⟩
        have hb4 := hb2.trans (hb3.mono hb2.size)
        clear HW hb2 hb3
        go_wp2
        go_ret
        exact ⟨rfl, hb4⟩
      · have J0 : CB w w1.heap.size E L S cE cL cS k (En.most l + 2) l (w1.alloc (.cells #[.slice E k cE, .int .i64 k, .int .i64 10, .slice L 10 cL, .slice S (En.most l + 2) cS] 27)) := CB.start hC HN.out.symm rfl hE hL hb1 27
        clear HM hC hb1 hE hL
        generalize En.most l = m at *
        by_cases hcond : 101 < k ∨ 100 < m ∨ n2 < 2
        · have hold := J0.old
          clear HLk HLf HR2 HR2' HR3' HTw J0
          by_cases h1 : 101 < k
          · have z1 : (101 : Int) < (k : Int) := by omega
            go_wp2_with fail
            with_reducible refine (HW.out _).mono ?_
            rintro e w2 ⟨rfl, hb3⟩
            have hb4 := hold.trans (hb3.mono hold.size)
            clear HW hold hb3
            go_wp2
            go_ret
            exact ⟨rfl, hb4⟩
          · have z1 : ¬ ((101 : Int) < (k : Int)) := by omega
            by_cases h2 : 100 < m
            · have z2 : (100 : Int) < (m : Int) := by omega
              go_wp2_with fail
              with_reducible refine (HW.out _).mono ?_
              rintro e w2 ⟨rfl, hb3⟩
              have hb4 := hold.trans (hb3.mono hold.size)
              clear HW hold hb3
              go_wp2
              go_ret
              exact ⟨rfl, hb4⟩
            · have z2 : ¬ ((100 : Int) < (m : Int)) := by omega
              have z3 : (n2 : Int) < 2 := by omega
              go_wp2_with fail
              with_reducible refine (HW.out _).mono ?_
              rintro e w2 ⟨rfl, hb3⟩
              have hb4 := hold.trans (hb3.mono hold.size)
              clear HW hold hb3
              go_wp2
              go_ret
              exact ⟨rfl, hb4⟩
        · have z1 : ¬ ((101 : Int) < (k : Int)) := by omega
          have z2 : ¬ ((100 : Int) < (m : Int)) := by omega
          have z3 : ¬ ((n2 : Int) < 2) := by omega
          go_wp2_with fail
          with_reducible refine (HW.out _).mono ?_
          rintro e w2 ⟨rfl, hb3⟩
          have J1 := J0.on hb3
          clear HW J0 hb3
          go_wp2_with fail
          clear z1 z2 z3
          have J2 := J1.drew
          refine wp_region_takes 11 [0, 1, 3, 5, 7, 8, 9] [2, 4, 6, 10] (fun w' => w'.cell? ⟨w1.heap.size, 0, none⟩ = some (.slice E k cE) ∧ w'.cell? ⟨w1.heap.size, 1, none⟩ = some (.int .i64 k) ∧ w'.cell? ⟨w1.heap.size, 2, none⟩ = some (.int .i64 10) ∧ w'.cell? ⟨w1.heap.size, 3, none⟩ = some (.slice L 10 cL) ∧ w'.cell? ⟨w1.heap.size, 4, none⟩ = some (.slice S (m + 2) cS)) (by kernel_rfl) (by kernel_rfl) ⟨J2.c0, J2.c1, J2.c2, J2.c3, J2.c4⟩ ?_
          refine wpTakes_cons (v := ?_) _ at0 rfl ?_ ?_ ?_
          rotate_left 1
          · rintro W ⟨x0, x1, x2, x3, x4⟩
            go_simp
            rfl
          · exact fun _ _ _ h => h
          simp only [Act.put, List.setIfInBounds_toArray, List.set_cons_zero, List.set_cons_succ]
          refine wpTakes_cons (v := ?_) _ at1 rfl ?_ ?_ ?_
          rotate_left 1
          · rintro W ⟨x0, x1, x2, x3, x4⟩
            go_simp
            rfl
          · exact fun _ _ _ h => h
          simp only [Act.put, List.setIfInBounds_toArray, List.set_cons_zero, List.set_cons_succ]
          refine wpTakes_cons (v := ?_) _ at3 rfl ?_ ?_ ?_
          rotate_left 1
          · rintro W ⟨x0, x1, x2, x3, x4⟩
            go_simp
            rfl
          · exact fun _ _ _ h => h
          simp only [Act.put, List.setIfInBounds_toArray, List.set_cons_zero, List.set_cons_succ]
          refine wpTakes_cons (v := ?_) _ at5 rfl ?_ ?_ ?_
          rotate_left 1
          · rintro W ⟨x0, x1, x2, x3, x4⟩
            go_simp
            rfl
          · exact fun _ _ _ h => h
          simp only [Act.put, List.setIfInBounds_toArray, List.set_cons_zero, List.set_cons_succ]
          refine wpTakes_cons (v := ?_) _ at7 rfl ?_ ?_ ?_
          rotate_left 1
          · rintro W ⟨x0, x1, x2, x3, x4⟩
            go_simp
            rfl
          · exact fun _ _ _ h => h
          simp only [Act.put, List.setIfInBounds_toArray, List.set_cons_zero, List.set_cons_succ]
          refine wpTakes_cons (v := ?_) _ at8 rfl ?_ ?_ ?_
          rotate_left 1
          · rintro W ⟨x0, x1, x2, x3, x4⟩
            go_simp
            rfl
          · exact fun _ _ _ h => h
          simp only [Act.put, List.setIfInBounds_toArray, List.set_cons_zero, List.set_cons_succ]
          refine wpTakes_cons (v := ?_) _ at9 rfl ?_ ?_ ?_
          rotate_left 1
          · rintro W ⟨x0, x1, x2, x3, x4⟩
            go_simp
            rfl
          · exact fun _ _ _ h => h
          simp only [Act.put, List.setIfInBounds_toArray, List.set_cons_zero, List.set_cons_succ]
          refine wpTakes_nil (wpCalls_cons _ at2 rfl fun K' hK' => ?_)
          refine oper_app_row w2.drew (.const (.slice none 0 0)) (.tmp 51) 22 rfl w2.heap.size 3 (.int .i64 0) 8 Tryd.underlying22 infoInt4 rfl (.slice none 0 0) 0 [] rfl (World.ownsRow_nil _ _ _ _) A3 n3 c3 (fun i => .int .i64 (r.getD i 0)) rfl (HR3'.out _ J2.old) (fun _ _ => rfl) (by unfold maxLen; omega) (by omega) (Nat.le_refl _) ?_
          intro v5 w5 h5 g5 _
          have hB5 : Below w2.heap.size w2 w5 := ((Below.refl w2.heap.size w2).drew).grown g5 (Nat.le_refl _) (fun g hg => by cases hg)
          rw [Nat.zero_add, List.nil_append] at h5
          have J5 := J1.on hB5
          refine hK'.out _ _ ⟨J5.c0, J5.c1, J5.c2, J5.c3, J5.c4⟩ ?_
          clear hK' g5
          simp only [Act.put, List.setIfInBounds_toArray, List.set_cons_zero, List.set_cons_succ]
          refine wpCalls_cons _ at4 rfl fun K' hK' => ?_
          refine oper_app_row w5 (.tmp 52) (.tmp 53) 22 rfl w2.heap.size 3 (.int .i64 0) 8 Tryd.underlying22 infoInt4 rfl v5 n3 _ rfl h5 A2 n2 c2 (fun i => .int .i64 (s.getD i 0)) rfl (HR2'.out _ J5.old) (fun _ _ => rfl) (by unfold maxLen; omega) (by omega) hB5.size ?_
          intro v6 w6 h6 g6 _
          have hB6 : Below w2.heap.size w2 w6 := hB5.grown g6 hB5.size (fun g hg => (h5.lt g hg).1)
          have J6 := J1.on hB6
          obtain ⟨X, cx, hv6, hcx, hX⟩ := HTw.out _ _ _ h6
          subst hv6
          refine hK'.out _ _ ⟨J6.c0, J6.c1, J6.c2, J6.c3, J6.c4⟩ ?_
          clear hK' g6 h5 h6 J5 J2 J1 hB5 hB6
          simp only [Act.put, List.setIfInBounds_toArray, List.set_cons_zero, List.set_cons_succ]
          refine wpCalls_cons _ at6 rfl fun K' hK' => ?_
          go_simp
          go_at_call 9
          refine (HLf.out _ _ _ _ _ _ _ _ _ _ _ _ J6 (by omega) (by omega) hX hcx).mono ?_
          rintro e w7 ⟨rfl, J7⟩
          refine hK'.out _ _ ⟨J7.c0, J7.c1, J7.c2, J7.c3, J7.c4⟩ ?_
          clear hK' J6 hX HLf
          refine wpCalls_cons _ at10 rfl fun K' hK' => ?_
          go_simp
          go_at_call 9
          refine (HLk.out _ _ _ _ _ _ _ _ _ _ J7 (by omega) (HR2.out _ J7.old)).mono ?_
          rintro e w8 ⟨rfl, J8⟩
          refine hK'.out _ _ ⟨J8.c0, J8.c1, J8.c2, J8.c3, J8.c4⟩ (wpCalls_nil ?_)
          have hold := J8.old
          clear hK' J7 HLk J8 HR2 HR2' HR3' HTw
          simp only [List.drop_succ_cons, List.drop_zero]
          go_wp2
          go_ret
          exact ⟨by first | rfl | simp, hold⟩

end Go.Proofs.YtffhphcgmgkgbabDoor
