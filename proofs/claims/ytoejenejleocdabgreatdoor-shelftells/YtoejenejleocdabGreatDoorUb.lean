/- Package shelf, of what Open has made: Count, Places, wordOf, isMore, likeliest. -/
import Derived.Test.YtoejenejleocdabGreatDoorUa
import Derived.Test.YtoejenejleocdabGreatDoorJw
namespace Go.Proofs.YtoejenejleocdabGreatDoor
open Go.RowKit Tx
attribute [local irreducible] Bt.pop Bt.popF

theorem SHB.signs {w0 : World} {B : Nat} {ls : List (List Wd)} {s : Sf} {W : World} (h : SHB w0 B ls s W) (hg : GV W) (q : Wd) (hq : q.length ≤ 1000000000) :
    Calls Tryz.prog 26 #[.agg #[.slice s.A s.n s.c, .slice s.A2 s.n2 s.c2], sv q] W (SgPost W (sgn (Tx.bw ls) q)) := h.sh.signs hg q hq

set_option maxRecDepth 100000 in
set_option maxHeartbeats 1000000 in
theorem countS_any (ls : List (List Wd)) (s : Sf) (q : Wd) (w : World) (h : SH w ls s) (hg : GV w) (hq : q.length ≤ 1000000000) :
    Calls Tryz.prog 24 #[s.v, sv q] w fun e w' => e = .returned (.int .i64 (cntW ls q : Nat)) ∧ Below w.heap.size w w' := by
  have J : SHB w w.heap.size ls s (w.alloc s.obj) := SHB.start h (Below.refl _ _)
  have hb0 := (Below.refl _ w).alloc (Nat.le_refl _) s.obj
  have HS := Lib.hid (J.signs (hg.on hb0) q hq)
  have HL : Hid (∀ t, sgn (Tx.bw ls) q = some t → t.length ≤ 17592186044416) := Lib.hid fun t ht => by have := sgn_length ht; omega
  have HC : Hid (∀ A c t W, SHB w w.heap.size ls s W → IRow W W.heap.size A t → t.length ≤ c → t.length ≤ 17592186044416 → Calls Tryz.prog 53 #[.agg #[.slice s.E s.N s.cE, .int .i64 s.N, .int .i64 10, .slice s.L 10 s.cL, .slice s.S s.M s.cS], .slice A t.length c] W fun e w' => e = .returned (.int .i64 ((En.plc (bt ls) t).length : Nat)) ∧ Below W.heap.size W w') := Lib.hid fun A c t W hW hr hc hl =>
    count_any s.E s.L s.S A s.cE s.cL s.cS s.N s.M c (bt ls) t W hW.sh.cmb hW.sh.len hW.sh.num hW.sh.capE hW.sh.capL hr hc hl
  unfold cntW
  clear h hg hq
  generalize sgn (Tx.bw ls) q = o at *
  go_enter Tryz.func24, Tryz.ntmps24
  go_wp2_with fail
  with_reducible refine HS.out.mono ?_
  clear HS
  cases o with
  | none =>
    rintro e w1 ⟨rfl, hb1⟩
    have J1 := J.on hb1
    have hold := J1.old
    clear J J1 HL HC
    go_wp2
    go_ret
    exact ⟨rfl, hold⟩
  | some t =>
    rintro e w1 ⟨A, c, rfl, hc, hr, hb1⟩
    have J1 := J.on hb1
    have HCt := Lib.hid (HC.out A c t w1 J1 hr hc (HL.out t rfl))
    have c2 := J1.c2
    have c3 := J1.c3
    have c4 := J1.c4
    have c5 := J1.c5
    have c6 := J1.c6
    have hold := J1.old
    clear J J1 HL HC hr
    go_wp2_with fail
    with_reducible refine HCt.out.mono ?_
    rintro e w2 ⟨rfl, hb2⟩
    have hold2 := hold.trans (hb2.mono hold.size)
    clear HCt
    go_wp2
    go_ret
    exact ⟨rfl, hold2⟩

/-- where words stand -/
def plcW (ls : List (List Wd)) (q : Wd) : List Nat := match sgn (Tx.bw ls) q with
  | some t => En.plc (bt ls) t
  | none => []
set_option maxRecDepth 100000 in
set_option maxHeartbeats 1000000 in
theorem placesS_any (ls : List (List Wd)) (s : Sf) (q : Wd) (w : World) (h : SH w ls s) (hg : GV w) (hq : q.length ≤ 1000000000) :
    Calls Tryz.prog 27 #[s.v, sv q] w (Ints w (up (plcW ls q))) := by
  have J : SHB w w.heap.size ls s (w.alloc s.obj) := SHB.start h (Below.refl _ _)
  have hb0 := (Below.refl _ w).alloc (Nat.le_refl _) s.obj
  have HS := Lib.hid (J.signs (hg.on hb0) q hq)
  have HL : Hid (∀ t, sgn (Tx.bw ls) q = some t → t.length ≤ 17592186044416) := Lib.hid fun t ht => by have := sgn_length ht; omega
  have HC : Hid (∀ A c t W, SHB w w.heap.size ls s W → IRow W W.heap.size A t → t.length ≤ c → t.length ≤ 17592186044416 → Calls Tryz.prog 56 #[.agg #[.slice s.E s.N s.cE, .int .i64 s.N, .int .i64 10, .slice s.L 10 s.cL, .slice s.S s.M s.cS], .slice A t.length c] W (Ints W (up (En.plc (bt ls) t)))) := Lib.hid fun A c t W hW hr hc hl =>
    places_any s.E s.L s.S A s.cE s.cL s.cS s.N s.M c (bt ls) t W hW.sh.cmb hW.sh.len hW.sh.num hW.sh.capE hW.sh.capL hr hc hl
  unfold plcW
  clear h hg hq
  generalize sgn (Tx.bw ls) q = o at *
  go_enter Tryz.func27, Tryz.ntmps27
  go_wp2_with fail
  with_reducible refine HS.out.mono ?_
  clear HS
  cases o with
  | none =>
    rintro e w1 ⟨rfl, hb1⟩
    have J1 := J.on hb1
    have hold := J1.old
    clear J J1 HL HC
    go_wp2
    go_ret
    exact ⟨none, 0, rfl, fun h => absurd h (by simp [up]), hold⟩
  | some t =>
    rintro e w1 ⟨A, c, rfl, hc, hr, hb1⟩
    have J1 := J.on hb1
    have HCt := Lib.hid (HC.out A c t w1 J1 hr hc (HL.out t rfl))
    have c2 := J1.c2
    have c3 := J1.c3
    have c4 := J1.c4
    have c5 := J1.c5
    have c6 := J1.c6
    have hold := J1.old
    clear J J1 HL HC hr
    go_wp2_with fail
    with_reducible refine HCt.out.mono ?_
    rintro e w2 ⟨X, cx, rfl, hX, hb2⟩
    have hold2 := hold.trans (hb2.mono hold.size)
    clear HCt
    go_wp2
    go_ret
    exact ⟨X, cx, rfl, hX, hold2⟩

set_option maxHeartbeats 1000000 in
/-- the word of a sign -/
theorem wordOf_any (ls : List (List Wd)) (A : Option Addr) (n c : Nat) (A2 : Option Addr) (n2 c2 : Nat) (k : Nat) (w : World) (h : BookAt w A n c A2 n2 (Tx.bw ls) (bt ls)) (h1 : 1 ≤ k) (h2 : k ≤ n + 1) (hn : n ≤ 1000) :
    Calls Tryz.prog 57 #[.agg #[.slice A n c, .slice A2 n2 c2], .int .i64 k] w fun e w' => e = .returned (.tuple #[sv (wordS ls k), .int .i64 0]) ∧ Below w.heap.size w w' := by
  have hb := (Below.refl _ w).alloc (Nat.le_refl _) (.cells #[.slice A n c, .slice A2 n2 c2] 43)
  by_cases hk : k = 1
  · subst hk
    clear h
    go_enter Tryz.func57, Tryz.ntmps57
    go_wp2
    go_ret2
    exact ⟨rfl, hb⟩
  · have hkz : ((k : Int) == 1) = false := by simp; omega
    obtain ⟨j, rfl⟩ : ∃ j, k = j + 2 := ⟨k - 2, by omega⟩
    have hj : j < n := by omega
    have HW : Hid (wordS ls (j + 2) = (Tx.bw ls).getD j []) := Lib.hid (by unfold wordS; rw [if_neg (by omega), show j + 2 - 2 = j from by omega])
    have hwl := h.wlen
    obtain ⟨b, o, rfl, hbb, hcc⟩ := h.words (by omega)
    have d0 : w.cell? ⟨b, o + j, none⟩ = some (sv ((Tx.bw ls).getD j [])) := hcc j (by omega)
    have hjn : (j : Int) < (n : Int) := by omega
    rw [HW.out]
    generalize (Tx.bw ls).getD j [] = x at *
    clear h hcc hwl HW
    go_enter Tryz.func57, Tryz.ntmps57
    go_wp2
    go_ret2
    exact ⟨rfl, hb⟩

set_option maxHeartbeats 1000000 in
theorem isMore_any (a b c d : Nat) (w : World) (h1 : a * d < 9223372036854775808) (h2 : c * b < 9223372036854775808) :
    Calls Tryz.prog 96 #[.agg #[.int .i64 a, .int .i64 b], .agg #[.int .i64 c, .int .i64 d]] w fun e w' => e = .returned (.bool (decide (c * b < a * d))) ∧ Below w.heap.size w w' := by
  have hb := ((Below.refl _ w).alloc (Nat.le_refl _) (.cells #[.int .i64 a, .int .i64 b] 24)).alloc (by simp) (.cells #[.int .i64 c, .int .i64 d] 24)
  have e1 : (a : Int) * (d : Int) = ((a * d : Nat) : Int) := by simp
  have e2 : (c : Int) * (b : Int) = ((c * b : Nat) : Int) := by simp
  have w1 : IntKind.i64.wrap ((a : Int) * (d : Int)) = ((a * d : Nat) : Int) := by rw [e1]; exact w64 _ (by omega) (by omega)
  have w2 : IntKind.i64.wrap ((c : Int) * (b : Int)) = ((c * b : Nat) : Int) := by rw [e2]; exact w64 _ (by omega) (by omega)
  clear e1 e2
  generalize a * d = x at *
  generalize c * b = y at *
  go_enter Tryz.func96, Tryz.ntmps96
  go_wp2
  go_ret
  exact ⟨rfl, hb⟩

end Go.Proofs.YtoejenejleocdabGreatDoor
