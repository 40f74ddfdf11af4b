/- Package shelf, of whatever shelf: Likely, Guess; the walk of the law TopRaw. -/
import Derived.Test.YtoejenejleocdabGreatDoorUl
import Derived.Test.YtoejenejleocdabGreatDoorJb
namespace Go.Proofs.YtoejenejleocdabGreatDoor
open Go.RowKit Tx
attribute [local irreducible] Bt.pop Bt.popF

theorem RSB.cells {w0 : World} {B : Nat} {ws : List Wd} {s : Rf} {W : World} (h : RSB w0 B ws s W) : W.cell? ⟨B, 0, none⟩ = some (.slice s.A s.n s.c) ∧ W.cell? ⟨B, 1, none⟩ = some (.slice s.A2 s.n2 s.c2) ∧ W.cell? ⟨B, 2, none⟩ = some (.slice s.E s.nE s.cE) ∧ W.cell? ⟨B, 3, none⟩ = some (.int .i64 s.N) ∧ W.cell? ⟨B, 4, none⟩ = some (.int .i64 s.D) ∧ W.cell? ⟨B, 5, none⟩ = some (.slice s.L s.nL s.cL) ∧ W.cell? ⟨B, 6, none⟩ = some (.slice s.S s.M s.cS) :=
  ⟨h.c0, h.c1, h.c2, h.c3, h.c4, h.c5, h.c6⟩
/-- some part and an error -/
def SomePE (w : World) (e : Ending) (w' : World) : Prop := ∃ (n d i : Int), e = .returned (.tuple #[.agg #[.int .i64 n, .int .i64 d], .int .i64 i]) ∧ Below w.heap.size w w'

/-- guess.Likely of whatever index and number -/
theorem likelyR_any (E L S A : Option Addr) (cE cL cS nE nL M c n : Nat) (N D x : Int) (s : List Int) (w : World) (hg : NG w) (h : RC w E L S cE cL nE nL M N) (hM : M ≤ 17592186044416) (hr : IRow w w.heap.size A s) (hn : n = s.length) (hcap : n ≤ c) (hs : n ≤ 17592186044416) :
    Calls Tryz.prog 20 #[.agg #[.slice E nE cE, .int .i64 N, .int .i64 D, .slice L nL cL, .slice S M cS], .slice A n c, .int .i64 x] w fun e w' => ∃ n d : Int, e = .returned (.agg #[.int .i64 n, .int .i64 d]) ∧ Below w.heap.size w w' := by
  by_cases hx : x ≤ 0 ∨ ((M - 2 : Nat) : Int) < x
  · exact likelyR_no E L S A cE cL cS nE nL M c n N D x w hg hM hx
  · obtain ⟨y, rfl⟩ := Int.eq_ofNat_of_zero_le (show 0 ≤ x by omega)
    exact likelyR_yes E L S A cE cL cS nE nL M c n y N D s w hg h hM hr hn hcap hs (by omega) (by omega)

/-- the shelf in its block, and the part that comes out in the next one -/
structure LBr (w : World) (ws : List Wd) (s : Rf) (W : World) : Prop where
  sh : RSB w w.heap.size ws s W
  res : Bx2 w (w.heap.size + 1) (.int .i64 0) (.int .i64 0) W
theorem LBr.on {w : World} {ws : List Wd} {s : Rf} {W W' : World} (h : LBr w ws s W) (hb : Below W.heap.size W W') : LBr w ws s W' := ⟨h.sh.on hb, h.res.on hb⟩
theorem LBr.start {w : World} {ws : List Wd} {s : Rf} (h : RSH w ws s) : LBr w ws s ((w.alloc s.obj).alloc (.cells #[.int .i64 0, .int .i64 0] 24)) :=
  have J := RSB.start h (Below.refl _ w)
  ⟨J.on ((Below.refl _ _).alloc (Nat.le_refl _) _), Bx2.new' J.old (w.heap.size + 1) (by simp) _ _ _⟩

set_option maxRecDepth 100000 in
set_option maxHeartbeats 2000000 in
theorem likelyS_raw (ws : List Wd) (s : Rf) (q y : Wd) (w : World) (h : RSH w ws s) (hg : GV w) (hq : q.length ≤ 1000000000) (hy : y.length ≤ 1000000000) :
    Calls Tryz.prog 29 #[s.v, sv q, sv y] w (SomePE w) := by
  have J := LBr.start h
  have HS := Lib.hid (J.sh.signs (hg.on J.sh.old) q hq)
  have HS2 : Hid (∀ W, LBr w ws s W → Calls Tryz.prog 26 #[.agg #[.slice s.A s.n s.c, .slice s.A2 s.n2 s.c2], sv y] W (SgPost W (sgn ws y))) := Lib.hid fun W hW => hW.sh.signs (hg.on hW.sh.old) y hy
  have HL : Hid (∀ t, sgn ws q = some t → t.length ≤ 4000000000) := Lib.hid fun t ht => by have := sgn_length ht; omega
  have hM := h.mM
  have HLk : Hid (∀ A c k (t : List Int) W, LBr w ws s W → IRow W W.heap.size A t → t.length ≤ c → t.length ≤ 4000000000 → Calls Tryz.prog 20 #[.agg #[.slice s.E s.nE s.cE, .int .i64 s.N, .int .i64 s.D, .slice s.L s.nL s.cL, .slice s.S s.M s.cS], .slice A t.length c, .int .i64 k] W fun e w' => ∃ n d : Int, e = .returned (.agg #[.int .i64 n, .int .i64 d]) ∧ LBr w ws s w' ∧ Below W.heap.size W w') := Lib.hid fun A c k t W hW hr hc hl => by
    refine (likelyR_any s.E s.L s.S A s.cE s.cL s.cS s.nE s.nL s.M c t.length s.N s.D k t W (hg.on hW.sh.old).ng hW.sh.sh.rc (by omega) hr rfl hc (by omega)).mono ?_
    rintro e w' ⟨n, d, h1, h2⟩
    exact ⟨n, d, h1, hW.on h2, h2⟩
  clear h hg hq hy hM
  generalize sgn ws q = o at *
  generalize sgn ws y = o2 at *
  go_enter Tryz.func29, Tryz.ntmps29
  go_wp2_with fail
  with_reducible refine HS.out.mono ?_
  clear HS
  cases o with
  | none =>
    rintro e w1 ⟨rfl, hb1⟩
    have J1 := J.on hb1
    clear J HS2 HLk HL
    have r0 := J1.res.c0
    have r1 := J1.res.c1
    have f0 := J1.res.f0
    have f1 := J1.res.f1
    go_wp2
    have X := J1.res.set (.int .i64 0) (.int .i64 0)
    have s0 := X.c0
    have s1 := X.c1
    exact bodyPost_ret (v := .tuple #[.agg #[.int .i64 0, .int .i64 0], .int .i64 3]) (by simp [results, Tryz.results29, go_sem, s0, s1]) rfl ⟨0, 0, 3, rfl, X.old⟩
  | some t =>
    rintro e w1 ⟨A, c, rfl, hc, hr, hb1⟩
    have J1 := J.on hb1
    have htl := HL.out t rfl
    have HS3 := Lib.hid (HS2.out w1 J1)
    clear J HS2 hb1 HL
    have c0 := J1.sh.c0
    have c1 := J1.sh.c1
    go_wp2_with fail
    with_reducible refine HS3.out.mono ?_
    clear HS3
    cases o2 with
    | none =>
      rintro e w2 ⟨rfl, hb2⟩
      have J2 := J1.on hb2
      clear J1 c0 c1 HLk hr
      have r0 := J2.res.c0
      have r1 := J2.res.c1
      have f0 := J2.res.f0
      have f1 := J2.res.f1
      go_wp2
      have X := J2.res.set (.int .i64 0) (.int .i64 0)
      have s0 := X.c0
      have s1 := X.c1
      exact bodyPost_ret (v := .tuple #[.agg #[.int .i64 0, .int .i64 0], .int .i64 3]) (by simp [results, Tryz.results29, go_sem, s0, s1]) rfl ⟨0, 0, 3, rfl, X.old⟩
    | some u =>
      rintro e w2 ⟨A3, c3, rfl, hc3, hr3, hb2⟩
      have J2 := J1.on hb2
      by_cases hu : u.length = 1
      · have hr2 := hr.on hb2
        obtain ⟨b, o, rfl, hbb, hcc⟩ := hr3 (by omega)
        have d0 : w2.cell? ⟨b, o, none⟩ = some (.int .i64 (u.getD 0 0)) := hcc 0 (by omega)
        have hz : ((u.length : Int) != 1) = false := by rw [hu]; rfl
        generalize u.getD 0 0 = k at *
        clear J1 c0 c1 hr hb2 hcc hr3
        obtain ⟨c0, c1, c2, c3', c4, c5, c6⟩ := J2.sh.cells
        have hd0 := (Below.refl w2.heap.size w2).drew
        have J3 := J2.on hd0
        have HL2 := Lib.hid (HLk.out A c k t w2.drew J3 (hr2.on hd0) hc htl)
        have hu1 : (0 : Int) < (u.length : Int) := by omega
        have hu2 : 0 < u.length := by omega
        clear HLk hu
        go_wp2_with fail
        refine wp_region_takes 7 [0, 1, 2, 3, 4, 5] [6] (fun w' => w'.cell? ⟨w.heap.size, 2, none⟩ = some (.slice s.E s.nE s.cE) ∧ w'.cell? ⟨w.heap.size, 3, none⟩ = some (.int .i64 s.N) ∧ w'.cell? ⟨w.heap.size, 4, none⟩ = some (.int .i64 s.D) ∧ w'.cell? ⟨w.heap.size, 5, none⟩ = some (.slice s.L s.nL s.cL) ∧ w'.cell? ⟨w.heap.size, 6, none⟩ = some (.slice s.S s.M s.cS) ∧ w'.cell? ⟨b, o, none⟩ = some (.int .i64 k)) (by kernel_rfl) (by kernel_rfl) ⟨c2, c3', c4, c5, c6, d0⟩ ?_
        refine wpTakes_cons (v := ?_) _ at0 rfl ?_ ?_ ?_
        rotate_left 1
        · rintro W ⟨x0, x1, x2, x3, x4, x5⟩
          go_simp
          rfl
        · exact fun _ _ _ h => h
        simp only [Act.put, List.setIfInBounds_toArray, List.set_cons_zero, List.set_cons_succ]
        refine wpTakes_cons (v := ?_) _ at1 rfl ?_ ?_ ?_
        rotate_left 1
        · rintro W ⟨x0, x1, x2, x3, x4, x5⟩
          go_simp
          rfl
        · exact fun _ _ _ h => h
        simp only [Act.put, List.setIfInBounds_toArray, List.set_cons_zero, List.set_cons_succ]
        refine wpTakes_cons (v := ?_) _ at2 rfl ?_ ?_ ?_
        rotate_left 1
        · rintro W ⟨x0, x1, x2, x3, x4, x5⟩
          go_simp
          rfl
        · exact fun _ _ _ h => h
        simp only [Act.put, List.setIfInBounds_toArray, List.set_cons_zero, List.set_cons_succ]
        refine wpTakes_cons (v := ?_) _ at3 rfl ?_ ?_ ?_
        rotate_left 1
        · rintro W ⟨x0, x1, x2, x3, x4, x5⟩
          go_simp
          rfl
        · exact fun _ _ _ h => h
        simp only [Act.put, List.setIfInBounds_toArray, List.set_cons_zero, List.set_cons_succ]
        refine wpTakes_cons (v := ?_) _ at4 rfl ?_ ?_ ?_
        rotate_left 1
        · rintro W ⟨x0, x1, x2, x3, x4, x5⟩
          go_simp
          rfl
        · exact fun _ _ _ h => h
        simp only [Act.put, List.setIfInBounds_toArray, List.set_cons_zero, List.set_cons_succ]
        refine wpTakes_cons (v := ?_) _ at5 rfl ?_ ?_ ?_
        rotate_left 1
        · rintro W ⟨x0, x1, x2, x3, x4, x5⟩
          go_simp
          rfl
        · exact fun _ _ _ h => h
        simp only [Act.put, List.setIfInBounds_toArray, List.set_cons_zero, List.set_cons_succ]
        refine wpTakes_nil (wpCalls_cons _ at6 rfl fun K' hK' => ?_)
        go_simp
        go_at_call 20
        refine HL2.out.mono ?_
        rintro e w3 ⟨p1, p2, rfl, J4, hb4⟩
        refine hK'.out _ _ ⟨J4.sh.c2, J4.sh.c3, J4.sh.c4, J4.sh.c5, J4.sh.c6, (hb4.cell (p := ⟨b, o, none⟩) hbb).trans d0⟩ (wpCalls_nil ?_)
        clear hK' HL2 J2 J3 hr2 hd0
        simp only [List.drop_succ_cons, List.drop_zero]
        have r0 := J4.res.c0
        have r1 := J4.res.c1
        have f0 := J4.res.f0
        have f1 := J4.res.f1
        go_wp2
        have X := J4.res.set (.int .i64 p1) (.int .i64 p2)
        have s0 := X.c0
        have s1 := X.c1
        exact bodyPost_ret (v := .tuple #[.agg #[.int .i64 p1, .int .i64 p2], .int .i64 0]) (by simp [results, Tryz.results29, go_sem, s0, s1]) rfl ⟨p1, p2, 0, rfl, X.old⟩
      · have hz : ((u.length : Int) != 1) = true := bne_iff_ne.2 (by omega)
        clear J1 c0 c1 HLk hr hr3 hb2
        have r0 := J2.res.c0
        have r1 := J2.res.c1
        have f0 := J2.res.f0
        have f1 := J2.res.f1
        go_wp2
        have X := J2.res.set (.int .i64 0) (.int .i64 0)
        have s0 := X.c0
        have s1 := X.c1
        exact bodyPost_ret (v := .tuple #[.agg #[.int .i64 0, .int .i64 0], .int .i64 3]) (by simp [results, Tryz.results29, go_sem, s0, s1]) rfl ⟨0, 0, 3, rfl, X.old⟩

end Go.Proofs.YtoejenejleocdabGreatDoor
