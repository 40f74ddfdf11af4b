/- The walk of the law CombText. -/
import Derived.Test.YtelapijdpcoekabCq
import Derived.Test.YtelapijdpcoekabCs0
namespace Go.Proofs.Ytelapijdpcoekab
open Go.RowKit
attribute [local irreducible] Bt.pop Bt.popF

set_option maxRecDepth 100000 in
set_option maxHeartbeats 1000000 in
theorem combText_no (A : Option Addr) (n c : Nat) (w : World) (hM : Calls Try.prog 4 #[.slice A n c] w (NoComb w)) :
    Calls Try.prog 3 #[.slice A n c] w fun e w' => e = .returned (.bool true) ∧ Below w.heap.size w w' := by
  have HM := Lib.hid hM
  have HW := Lib.hid (fun W => combsK_any W)
  clear hM
  go_enter Try.func3, Try.ntmps3
  go_wp2_with fail
  with_reducible refine HM.out.mono ?_
  rintro e w1 ⟨rfl, hb1⟩
  have hb2 := hb1.alloc hb1.size (.cells #[.slice none 0 0, .int .i64 0, .int .i64 0, .slice none 0 0, .slice none 0 0] 27)
  clear HM
  go_wp2_with fail
  with_reducible refine (HW.out _).mono ?_
  rintro e w2 ⟨rfl, hb3⟩
  have hb4 := hb2.trans (hb3.mono hb2.size)
  clear HW
  go_wp2
  go_ret
  exact ⟨rfl, hb4⟩

set_option maxRecDepth 100000 in
set_option maxHeartbeats 1000000 in
theorem combText_long (A : Option Addr) (c : Nat) (l : List Int) (w : World) (hr : IRow w w.heap.size A l) (hcap : l.length ≤ c) (hg : En.good l = true) (hs : l.length ≤ 4096) (hf : En.most l < 1024) (hl : 150 < l.length) :
    Calls Try.prog 3 #[.slice A l.length c] w fun e w' => e = .returned (.bool true) ∧ Below w.heap.size w w' := by
  have HM := Lib.hid (combMake_in A c l w hr hcap hg hs hf)
  have HW := Lib.hid (fun W => combsK_any W)
  have hz : (150 : Int) < (l.length : Int) := by omega
  clear hr hf hg
  generalize hN : l.length = N at *
  generalize En.most l + 2 = M at *
  clear hN
  go_enter Try.func3, Try.ntmps3
  go_wp2_with fail
  with_reducible refine HM.out.mono ?_
  rintro e w1 ⟨E, L, S, cE, cL, cS, rfl, _, _, _, hb1⟩
  have hb2 := hb1.alloc hb1.size (.cells #[.slice E N cE, .int .i64 N, .int .i64 10, .slice L 10 cL, .slice S M cS] 27)
  clear HM
  go_wp2_with fail
  with_reducible refine (HW.out _).mono ?_
  rintro e w2 ⟨rfl, hb3⟩
  have hb4 := hb2.trans (hb3.mono hb2.size)
  clear HW
  go_wp2
  go_ret
  exact ⟨rfl, hb4⟩

set_option maxRecDepth 100000 in
set_option maxHeartbeats 2000000 in
theorem combText_short (A : Option Addr) (c : Nat) (l : List Int) (w : World) (hr : IRow w w.heap.size A l) (hcap : l.length ≤ c) (hg : En.good l = true) (hf : En.most l < 1024) (hl : l.length ≤ 150) :
    Calls Try.prog 3 #[.slice A l.length c] w fun e w' => e = .returned (.bool true) ∧ Below w.heap.size w w' := by
  have HM := Lib.hid (combMake_in A c l w hr hcap hg (by omega) hf)
  have HW := Lib.hid (fun W => combsK_any W)
  have hz : ¬ ((150 : Int) < (l.length : Int)) := by omega
  have HT : Hid (∀ (B : Nat) (E L S : Option Addr) (cE cL cS N M : Nat) W, CB w B E L S cE cL cS N M l W → Calls Try.prog 6 #[.agg #[.slice E N cE, .int .i64 N, .int .i64 10, .slice L 10 cL, .slice S M cS]] W fun e w' => ∃ X cx, e = .returned (.slice X l.length cx) ∧ IRow w' w'.heap.size X l ∧ IRow w' w'.heap.size A l ∧ Below w.heap.size w w') := Lib.hid fun B E L S cE cL cS N M W h => by
    refine (text_any E L S cE cL cS N M l W h.cmb h.len h.num h.capE h.capL).mono ?_
    rintro e w' ⟨X, cx, h1, h2, h3⟩
    have hb := h.old.trans (h3.mono h.old.size)
    exact ⟨X, cx, h1, h2, hr.on hb, hb⟩
  have HI : Hid (∀ (W : World) (X : Option Addr), IRow W W.heap.size X l → ∀ i, i < l.length → ∃ b o, X = some ⟨b, o, none⟩ ∧ W.cell? ⟨b, o + i, none⟩ = some (.int .i64 (l.getD i 0))) := Lib.hid fun W X h i hi => by
    obtain ⟨b, o, e, _, hc⟩ := h (by omega)
    exact ⟨b, o, e, hc i hi⟩
  clear hr hf hg hcap
  generalize hN : l.length = N at *
  generalize hM2 : En.most l + 2 = M at *
  have HN := Lib.hid hN
  have HM2 := Lib.hid hM2
  clear hN hM2
  have hnn : ((N : Int) != (N : Int)) = false := by simp
  go_enter Try.func3, Try.ntmps3
  go_wp2_with fail
  with_reducible refine HM.out.mono ?_
  rintro e w1 ⟨E, L, S, cE, cL, cS, rfl, hE, hL, hC, hb1⟩
  have J0 : CB w w1.heap.size E L S cE cL cS N M l (w1.alloc (.cells #[.slice E N cE, .int .i64 N, .int .i64 10, .slice L 10 cL, .slice S M cS] 27)) := CB.start hC HN.out.symm HM2.out.symm hE hL hb1 27
  clear HM hC hb1 hE hL
  go_wp2_with fail
  with_reducible refine (HW.out _).mono ?_
  rintro e w2 ⟨rfl, hb2⟩
  have J1 := J0.on hb2
  clear HW J0 hb2
  generalize w1.heap.size = B at *
  have c0 := J1.c0
  have c1 := J1.c1
  have c2 := J1.c2
  have c3 := J1.c3
  have c4 := J1.c4
  have HT1 := Lib.hid (HT.out B E L S cE cL cS N M w2 J1)
  clear HT J1
  go_wp2_with fail
  with_reducible refine HT1.out.mono ?_
  rintro e w3 ⟨X, cx, rfl, hX, hA, hold⟩
  clear HT1 c0 c1 c2 c3 c4
  go_wp2
  go_loopw [33] (fun t W => ∃ k : Nat, k ≤ N ∧ t = .int .i64 k ∧ IRow W W.heap.size X l ∧ IRow W W.heap.size A l ∧ Below w.heap.size w W) (fun t _ => N - (intOf t).toNat)
  case atStart => exact ⟨0, Nat.zero_le _, rfl, hX, hA, hold⟩
  case round =>
    clear hX hA hold
    obtain ⟨k, hk, rfl, hX, hA, hold⟩ := hrel
    by_cases hlt : k < N
    · have hlz : (k : Int) < (N : Int) := by omega
      obtain ⟨b1, o1, rfl, d1⟩ := HI.out wr X hX k hlt
      obtain ⟨b2, o2, rfl, d2⟩ := HI.out wr A hA k hlt
      generalize l.getD k 0 = x at *
      have t1 : (x != x) = false := by simp
      clear HI
      go_wp2
      go_quiet (fail)
      clear t1
      go_wp2
      go_roundw
      case rel => exact ⟨k + 1, by omega, by go_num, hX.on (Below.drewN (Below.refl _ _) _), hA.on (Below.drewN (Below.refl _ _) _), Below.drewN hold _⟩
      case measure => simp [intOf]; omega
    · clear hX hA HI
      go_wp2
      go_ret
      exact ⟨rfl, hold⟩

end Go.Proofs.Ytelapijdpcoekab
