/- Package shelf, of whatever shelf: every call ends. -/
import Derived.Test.YtoejenejleocdabGreatDoorJn
import Derived.Test.YtoejenejleocdabGreatDoorUe
namespace Go.Proofs.YtoejenejleocdabGreatDoor
open Go.RowKit Tx
attribute [local irreducible] Bt.pop Bt.popF

/-- where whatever shelf's lists lie -/
structure Rf where
  A : Option Addr
  n : Nat
  c : Nat
  A2 : Option Addr
  n2 : Nat
  c2 : Nat
  E : Option Addr
  nE : Nat
  cE : Nat
  N : Int
  D : Int
  L : Option Addr
  nL : Nat
  cL : Nat
  S : Option Addr
  M : Nat
  cS : Nat
abbrev Rf.v (s : Rf) : Value := .agg #[.slice s.A s.n s.c, .slice s.A2 s.n2 s.c2, .slice s.E s.nE s.cE, .int .i64 s.N, .int .i64 s.D, .slice s.L s.nL s.cL, .slice s.S s.M s.cS]
abbrev Rf.obj (s : Rf) : Obj := .cells #[.slice s.A s.n s.c, .slice s.A2 s.n2 s.c2, .slice s.E s.nE s.cE, .int .i64 s.N, .int .i64 s.D, .slice s.L s.nL s.cL, .slice s.S s.M s.cS] 45
/-- whatever shelf -/
structure RSH (w : World) (ws : List Wd) (s : Rf) : Prop where
  words : SRow w w.heap.size s.A ws
  wlen : s.n = ws.length
  wn : s.n ≤ 1048576
  rc : RC w s.E s.L s.S s.cE s.cL s.nE s.nL s.M s.N
  mE : s.nE ≤ 1048576
  mM : s.M ≤ 1048576
theorem RSH.on {w w' : World} {ws : List Wd} {s : Rf} (h : RSH w ws s) (hb : Below w.heap.size w w') : RSH w' ws s := ⟨h.words.on hb, h.wlen, h.wn, h.rc.on hb, h.mE, h.mM⟩
/-- in a block of its own -/
structure RSB (w0 : World) (B : Nat) (ws : List Wd) (s : Rf) (W : World) : Prop where
  c0 : W.cell? ⟨B, 0, none⟩ = some (.slice s.A s.n s.c)
  c1 : W.cell? ⟨B, 1, none⟩ = some (.slice s.A2 s.n2 s.c2)
  c2 : W.cell? ⟨B, 2, none⟩ = some (.slice s.E s.nE s.cE)
  c3 : W.cell? ⟨B, 3, none⟩ = some (.int .i64 s.N)
  c4 : W.cell? ⟨B, 4, none⟩ = some (.int .i64 s.D)
  c5 : W.cell? ⟨B, 5, none⟩ = some (.slice s.L s.nL s.cL)
  c6 : W.cell? ⟨B, 6, none⟩ = some (.slice s.S s.M s.cS)
  sh : RSH W ws s
  lt : B < W.heap.size
  old : Below w0.heap.size w0 W
section
variable {w0 : World} {B : Nat} {ws : List Wd} {s : Rf} {W W' : World}
theorem RSB.on (h : RSB w0 B ws s W) (hb : Below W.heap.size W W') : RSB w0 B ws s W' :=
  ⟨(hb.cell (p := ⟨B, 0, none⟩) h.lt).trans h.c0, (hb.cell (p := ⟨B, 1, none⟩) h.lt).trans h.c1, (hb.cell (p := ⟨B, 2, none⟩) h.lt).trans h.c2, (hb.cell (p := ⟨B, 3, none⟩) h.lt).trans h.c3, (hb.cell (p := ⟨B, 4, none⟩) h.lt).trans h.c4, (hb.cell (p := ⟨B, 5, none⟩) h.lt).trans h.c5, (hb.cell (p := ⟨B, 6, none⟩) h.lt).trans h.c6,
    h.sh.on hb, Nat.lt_of_lt_of_le h.lt hb.size, h.old.trans (hb.mono h.old.size)⟩
theorem RSB.drew (h : RSB w0 B ws s W) : RSB w0 B ws s W.drew := h.on (Below.refl _ _).drew
theorem RSB.start (h : RSH W ws s) (hb : Below w0.heap.size w0 W) : RSB w0 W.heap.size ws s (W.alloc s.obj) :=
  ⟨by simp, by simp, by simp, by simp, by simp, by simp, by simp, h.on ((Below.refl _ _).alloc (Nat.le_refl _) _), by simp, hb.alloc hb.size _⟩
theorem RSB.signs (h : RSB w0 B ws s W) (hg : GV W) (q : Wd) (hq : q.length ≤ 1000000000) :
    Calls Tryz.prog 26 #[.agg #[.slice s.A s.n s.c, .slice s.A2 s.n2 s.c2], sv q] W (SgPost W (sgn ws q)) :=
  signs_any ws q s.A s.n s.c s.A2 s.n2 s.c2 W hg h.sh.words h.sh.wlen (by have := h.sh.wn; omega) hq
end

set_option maxRecDepth 100000 in
set_option maxHeartbeats 1000000 in
theorem countR_any (ws : List Wd) (s : Rf) (q : Wd) (w : World) (h : RSH w ws s) (hg : GV w) (hq : q.length ≤ 1000000000) :
    Calls Tryz.prog 24 #[s.v, sv q] w (SomeI w) := by
  have J : RSB w w.heap.size ws s (w.alloc s.obj) := RSB.start h (Below.refl _ _)
  have hb0 := (Below.refl _ w).alloc (Nat.le_refl _) s.obj
  have HS := Lib.hid (J.signs (hg.on hb0) q hq)
  have HL : Hid (∀ t, sgn ws q = some t → t.length ≤ 17592186044416) := Lib.hid fun t ht => by have := sgn_length ht; omega
  have HC : Hid (∀ A c t W, RSB w w.heap.size ws s W → IRow W W.heap.size A t → t.length ≤ c → t.length ≤ 17592186044416 → Calls Tryz.prog 53 #[.agg #[.slice s.E s.nE s.cE, .int .i64 s.N, .int .i64 s.D, .slice s.L s.nL s.cL, .slice s.S s.M s.cS], .slice A t.length c] W (SomeI W)) := Lib.hid fun A c t W hW hr hc hl =>
    combCount_raw s.E s.L s.S A s.cE s.cL s.cS s.nE s.nL s.M c s.N s.D t W hW.sh.rc hr hc hl
  clear h hg hq
  generalize sgn ws q = o at *
  go_enter Tryz.func24, Tryz.ntmps24
  go_wp2_with fail
  with_reducible refine HS.out.mono ?_
  clear HS
  cases o with
  | none =>
    rintro e w1 ⟨rfl, hb1⟩
    have hold := (J.on hb1).old
    clear J HL HC
    go_wp2
    go_ret
    exact ⟨0, rfl, by unfold Ir; omega, hold⟩
  | some t =>
    rintro e w1 ⟨A, c, rfl, hc, hr, hb1⟩
    have J1 := J.on hb1
    have HCt := Lib.hid (HC.out A c t w1 J1 hr hc (HL.out t rfl))
    have c2 := J1.c2
    have c3 := J1.c3
    have c4 := J1.c4
    have c5 := J1.c5
    have c6 := J1.c6
    have hold := J1.old
    clear J J1 HL HC hr
    go_wp2_with fail
    with_reducible refine HCt.out.mono ?_
    rintro e w2 ⟨x, rfl, ix, hb2⟩
    have hold2 := hold.trans (hb2.mono hold.size)
    clear HCt
    go_wp2
    go_ret
    exact ⟨x, rfl, ix, hold2⟩

set_option maxRecDepth 100000 in
set_option maxHeartbeats 1000000 in
theorem placesR_any (ws : List Wd) (s : Rf) (q : Wd) (w : World) (h : RSH w ws s) (hg : GV w) (hq : q.length ≤ 1000000000) :
    Calls Tryz.prog 27 #[s.v, sv q] w (SomeV w) := by
  have J : RSB w w.heap.size ws s (w.alloc s.obj) := RSB.start h (Below.refl _ _)
  have hb0 := (Below.refl _ w).alloc (Nat.le_refl _) s.obj
  have HS := Lib.hid (J.signs (hg.on hb0) q hq)
  have HL : Hid (∀ t, sgn ws q = some t → t.length ≤ 17592186044416) := Lib.hid fun t ht => by have := sgn_length ht; omega
  have HC : Hid (∀ A c t W, RSB w w.heap.size ws s W → IRow W W.heap.size A t → t.length ≤ c → t.length ≤ 17592186044416 → Calls Tryz.prog 56 #[.agg #[.slice s.E s.nE s.cE, .int .i64 s.N, .int .i64 s.D, .slice s.L s.nL s.cL, .slice s.S s.M s.cS], .slice A t.length c] W (SomeV W)) := Lib.hid fun A c t W hW hr hc hl =>
    places_raw s.E s.L s.S A s.cE s.cL s.cS s.nE s.nL s.M c s.N s.D t W hW.sh.rc hr hc hl (by have := hW.sh.mE; omega)
  clear h hg hq
  generalize sgn ws q = o at *
  go_enter Tryz.func27, Tryz.ntmps27
  go_wp2_with fail
  with_reducible refine HS.out.mono ?_
  clear HS
  cases o with
  | none =>
    rintro e w1 ⟨rfl, hb1⟩
    have hold := (J.on hb1).old
    clear J HL HC
    go_wp2
    go_ret
    exact ⟨_, _, _, rfl, hold⟩
  | some t =>
    rintro e w1 ⟨A, c, rfl, hc, hr, hb1⟩
    have J1 := J.on hb1
    have HCt := Lib.hid (HC.out A c t w1 J1 hr hc (HL.out t rfl))
    have c2 := J1.c2
    have c3 := J1.c3
    have c4 := J1.c4
    have c5 := J1.c5
    have c6 := J1.c6
    have hold := J1.old
    clear J J1 HL HC hr
    go_wp2_with fail
    with_reducible refine HCt.out.mono ?_
    rintro e w2 ⟨X, n, cx, rfl, hb2⟩
    have hold2 := hold.trans (hb2.mono hold.size)
    clear HCt
    go_wp2
    go_ret
    exact ⟨_, _, _, rfl, hold2⟩

set_option maxHeartbeats 1000000 in
theorem isMore_raw (a b c d : Int) (w : World) :
    Calls Tryz.prog 96 #[.agg #[.int .i64 a, .int .i64 b], .agg #[.int .i64 c, .int .i64 d]] w fun e w' => ∃ bb : Bool, e = .returned (.bool bb) ∧ Below w.heap.size w w' := by
  have hb := ((Below.refl _ w).alloc (Nat.le_refl _) (.cells #[.int .i64 a, .int .i64 b] 24)).alloc (by simp) (.cells #[.int .i64 c, .int .i64 d] 24)
  obtain ⟨x, hx⟩ : ∃ x : Int, IntKind.i64.wrap (a * d) = x := ⟨_, rfl⟩
  obtain ⟨y, hy⟩ : ∃ y : Int, IntKind.i64.wrap (c * b) = y := ⟨_, rfl⟩
  go_enter Tryz.func96, Tryz.ntmps96
  go_wp2
  go_ret
  exact ⟨_, rfl, hb⟩

/-- some text and an error -/
def SomeT (w : World) (e : Ending) (w' : World) : Prop := ∃ (x : Wd) (i : Int), e = .returned (.tuple #[sv x, .int .i64 i]) ∧ Below w.heap.size w w'

set_option maxHeartbeats 1000000 in
theorem wordOf_raw (ws : List Wd) (A : Option Addr) (n c : Nat) (A2 : Option Addr) (n2 c2 : Nat) (k : Int) (w : World) (h : SRow w w.heap.size A ws) (hl : n = ws.length) :
    Calls Tryz.prog 57 #[.agg #[.slice A n c, .slice A2 n2 c2], .int .i64 k] w (SomeT w) := by
  have HL := Lib.hid hl
  clear hl
  have hb := (Below.refl _ w).alloc (Nat.le_refl _) (.cells #[.slice A n c, .slice A2 n2 c2] 43)
  by_cases hk : k = 1
  · subst hk
    clear h
    go_enter Tryz.func57, Tryz.ntmps57
    go_wp2
    go_ret2
    exact ⟨[10], 0, rfl, hb⟩
  · have hkz : (k == 1) = false := by simpa using hk
    obtain ⟨y, hy⟩ : ∃ y : Int, IntKind.i64.wrap (k - 2) = y := ⟨_, rfl⟩
    by_cases h0 : y < 0
    · clear h
      go_enter Tryz.func57, Tryz.ntmps57
      go_wp2
      go_ret2
      exact ⟨[], 3, rfl, hb⟩
    · by_cases h1 : (n : Int) ≤ y
      · clear h
        go_enter Tryz.func57, Tryz.ntmps57
        go_wp2
        go_ret2
        exact ⟨[], 3, rfl, hb⟩
      · obtain ⟨j, rfl⟩ : ∃ j : Nat, y = j := ⟨y.toNat, by omega⟩
        obtain ⟨b, o, rfl, hbb, hcc⟩ := h (by have := HL.out; omega)
        have d0 : w.cell? ⟨b, o + j, none⟩ = some (sv (ws.getD j [])) := hcc j (by have := HL.out; omega)
        have hjn : (j : Int) < (n : Int) := by omega
        generalize ws.getD j [] = x at *
        clear h hcc h0 h1 HL
        go_enter Tryz.func57, Tryz.ntmps57
        go_wp2
        go_ret2
        exact ⟨x, 0, rfl, hb⟩

set_option maxRecDepth 100000 in
set_option maxHeartbeats 2000000 in
theorem likeliest_raw (m g c : Nat) (w : World) (hm : m ≤ 1048576) (hr : PtR g m w) :
    Calls Tryz.prog 58 #[.slice (some ⟨g, 0, none⟩) m c] w fun e w' => ∃ k : Int, e = .returned (.int .i64 k) ∧ Below w.heap.size w w' := by
  have X0 := Bx2.new (Below.refl _ w) (.int .i64 0) (.int .i64 1) 24
  have hr0 := hr.on ((Below.refl _ w).alloc (Nat.le_refl _) (.cells #[.int .i64 0, .int .i64 1] 24))
  have hgl := hr.lt
  have HM := Lib.hid (fun a b c d W => isMore_raw a b c d W)
  clear hr
  go_enter Tryz.func58, Tryz.ntmps58
  go_wp2
  go_loopw [3, 10] (fun s t W => ∃ (i : Nat) (N a b : Int), i ≤ m ∧ t = .int .i64 i ∧ s = .int .i64 N ∧ PtR g m W ∧ Bx2 w w.heap.size (.int .i64 a) (.int .i64 b) W) (fun _ t _ => m - (intOf t).toNat)
  case atStart => exact ⟨0, 0, 0, 1, Nat.zero_le _, rfl, rfl, hr0, X0⟩
  case round =>
    obtain ⟨i, N, a, b, hi, rfl, rfl, hP, X⟩ := hrel
    clear X0 hr0
    generalize wr = V at *
    by_cases hlt : i < m
    · have hlz : (i : Int) < (m : Int) := by omega
      obtain ⟨q0, q1, d0, d1⟩ := hP.at_ hlt
      have x0 := X.c0
      have x1 := X.c1
      have xlt := X.lt
      have hgV := hP.lt
      have HMi := Lib.hid (HM.out q0 q1 a b)
      have hbV := (Below.refl _ V).alloc (Nat.le_refl _) (.cells #[.int .i64 q0, .int .i64 q1] 24)
      have hRow := hP.on hbV
      have X1 := X.on hbV
      have Q0 := Bx2.new X.old (.int .i64 q0) (.int .i64 q1) 24
      clear HM hP X hbV
      go_wp2_with fail
      with_reducible refine (HMi.out _).mono ?_
      rintro e V2 ⟨bb, rfl, hb2⟩
      have X2 := X1.on hb2
      have Q2 := Q0.on hb2
      have hRow2 := hRow.on hb2
      clear HMi X1 Q0 hRow hb2 x0 x1
      cases bb with
      | true =>
        have x0 := X2.c0
        have x1 := X2.c1
        have f0 := X2.f0
        have f1 := X2.f1
        have y0 := Q2.c0
        have y1 := Q2.c1
        have X3 := X2.set (.int .i64 q0) (.int .i64 q1)
        have hRow3 : PtR g m ((V2.setCell ⟨w.heap.size, 0, none⟩ (.int .i64 q0)).setCell ⟨w.heap.size, 1, none⟩ (.int .i64 q1)) := by
          obtain ⟨q, h⟩ := hRow2
          exact ⟨q, (h.setOther (a := ⟨w.heap.size, 0, none⟩) (by show g ≠ w.heap.size; omega) _).setOther (a := ⟨w.heap.size, 1, none⟩) (by show g ≠ w.heap.size; omega) _⟩
        go_wp2
        go_region
        all_goals
          go_wp2
          go_roundw
          case rel => exact ⟨i + 1, _, q0, q1, by omega, by go_num, rfl, hRow3.on (Below.refl _ _).drew, X3.drew⟩
          case measure => simp [intOf]; omega
      | false =>
        go_wp2
        go_roundw
        case rel => exact ⟨i + 1, N, a, b, by omega, by go_num, rfl, hRow2, X2⟩
        case measure => simp [intOf]; omega
    · obtain rfl : i = m := by omega
      have hold := X.old
      clear HM hP X
      go_wp2
      go_ret
      exact ⟨_, rfl, hold⟩

end Go.Proofs.YtoejenejleocdabGreatDoor
