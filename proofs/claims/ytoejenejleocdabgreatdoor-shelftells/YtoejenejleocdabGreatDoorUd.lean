/- Package shelf, of what Open has made: Likely. -/
import Derived.Test.YtoejenejleocdabGreatDoorUc
import Derived.Test.YtoejenejleocdabGreatDoorJb
namespace Go.Proofs.YtoejenejleocdabGreatDoor
open Go.RowKit Tx
attribute [local irreducible] Bt.pop Bt.popF

/-- the shelf in its block, and the part that comes out in the next one -/
structure LB (w : World) (ls : List (List Wd)) (s : Sf) (W : World) : Prop where
  sh : SHB w w.heap.size ls s W
  res : Bx2 w (w.heap.size + 1) (.int .i64 0) (.int .i64 0) W
theorem LB.on {w : World} {ls : List (List Wd)} {s : Sf} {W W' : World} (h : LB w ls s W) (hb : Below W.heap.size W W') : LB w ls s W' := ⟨h.sh.on hb, h.res.on hb⟩
theorem LB.start {w : World} {ls : List (List Wd)} {s : Sf} (h : SH w ls s) : LB w ls s ((w.alloc s.obj).alloc (.cells #[.int .i64 0, .int .i64 0] 24)) :=
  have J := SHB.start h (Below.refl _ w)
  ⟨J.on ((Below.refl _ _).alloc (Nat.le_refl _) _), Bx2.new' J.old (w.heap.size + 1) (by simp) _ _ _⟩

set_option maxRecDepth 100000 in
set_option maxHeartbeats 1000000 in
theorem likelyS_no1 (ls : List (List Wd)) (s : Sf) (q y : Wd) (w : World) (h : SH w ls s) (hg : GV w) (hq : q.length ≤ 1000000000) (hn : sgn (Tx.bw ls) q = none) :
    Calls Tryz.prog 29 #[s.v, sv q, sv y] w fun e w' => e = .returned (.tuple #[.agg #[.int .i64 0, .int .i64 0], .int .i64 3]) ∧ Below w.heap.size w w' := by
  have J := LB.start h
  have HS := Lib.hid (J.sh.signs (hg.on J.sh.old) q hq)
  rw [hn] at HS
  clear h hg hq hn
  go_enter Tryz.func29, Tryz.ntmps29
  go_wp2_with fail
  with_reducible refine HS.out.mono ?_
  rintro e w1 ⟨rfl, hb1⟩
  have J1 := J.on hb1
  clear HS J
  have r0 := J1.res.c0
  have r1 := J1.res.c1
  have f0 := J1.res.f0
  have f1 := J1.res.f1
  go_wp2
  have X := J1.res.set (.int .i64 0) (.int .i64 0)
  have s0 := X.c0
  have s1 := X.c1
  exact bodyPost_ret (v := .tuple #[.agg #[.int .i64 0, .int .i64 0], .int .i64 3]) (by simp [results, Tryz.results29, go_sem, s0, s1]) rfl ⟨rfl, X.old⟩

set_option maxRecDepth 100000 in
set_option maxHeartbeats 2000000 in
theorem likelyS_no2 (ls : List (List Wd)) (s : Sf) (q y : Wd) (t : List Int) (w : World) (h : SH w ls s) (hg : GV w) (hq : q.length ≤ 1000000000) (hy : y.length ≤ 1000000000) (hn : sgn (Tx.bw ls) q = some t) (hm : ∀ u, sgn (Tx.bw ls) y = some u → u.length ≠ 1) :
    Calls Tryz.prog 29 #[s.v, sv q, sv y] w fun e w' => e = .returned (.tuple #[.agg #[.int .i64 0, .int .i64 0], .int .i64 3]) ∧ Below w.heap.size w w' := by
  have J := LB.start h
  have HS := Lib.hid (J.sh.signs (hg.on J.sh.old) q hq)
  rw [hn] at HS
  have HS2 : Hid (∀ W, LB w ls s W → Calls Tryz.prog 26 #[.agg #[.slice s.A s.n s.c, .slice s.A2 s.n2 s.c2], sv y] W (SgPost W (sgn (Tx.bw ls) y))) := Lib.hid fun W hW => hW.sh.signs (hg.on hW.sh.old) y hy
  generalize sgn (Tx.bw ls) y = o at *
  have Hm := Lib.hid hm
  clear h hg hq hn hy hm
  go_enter Tryz.func29, Tryz.ntmps29
  go_wp2_with fail
  with_reducible refine HS.out.mono ?_
  rintro e w1 ⟨A, c, rfl, hc, hr, hb1⟩
  have J1 := J.on hb1
  have HS3 := Lib.hid (HS2.out w1 J1)
  clear HS J HS2 hr hb1
  have c0 := J1.sh.c0
  have c1 := J1.sh.c1
  go_wp2_with fail
  with_reducible refine HS3.out.mono ?_
  clear HS3
  cases o with
  | none =>
    rintro e w2 ⟨rfl, hb2⟩
    have J2 := J1.on hb2
    clear J1 c0 c1 Hm
    have r0 := J2.res.c0
    have r1 := J2.res.c1
    have f0 := J2.res.f0
    have f1 := J2.res.f1
    go_wp2
    have X := J2.res.set (.int .i64 0) (.int .i64 0)
    have s0 := X.c0
    have s1 := X.c1
    exact bodyPost_ret (v := .tuple #[.agg #[.int .i64 0, .int .i64 0], .int .i64 3]) (by simp [results, Tryz.results29, go_sem, s0, s1]) rfl ⟨rfl, X.old⟩
  | some u =>
    rintro e w2 ⟨A3, c3, rfl, hc3, hr3, hb2⟩
    have J2 := J1.on hb2
    have hu := Hm.out u rfl
    clear J1 c0 c1 Hm hr3 hb2
    have hz : ((u.length : Int) != 1) = true := by simp; omega
    have r0 := J2.res.c0
    have r1 := J2.res.c1
    have f0 := J2.res.f0
    have f1 := J2.res.f1
    go_wp2
    have X := J2.res.set (.int .i64 0) (.int .i64 0)
    have s0 := X.c0
    have s1 := X.c1
    exact bodyPost_ret (v := .tuple #[.agg #[.int .i64 0, .int .i64 0], .int .i64 3]) (by simp [results, Tryz.results29, go_sem, s0, s1]) rfl ⟨rfl, X.old⟩

set_option maxRecDepth 100000 in
set_option maxHeartbeats 2000000 in
theorem likelyS_yes (ls : List (List Wd)) (s : Sf) (q y : Wd) (t : List Int) (k : Int) (w : World) (h : SH w ls s) (hg : GV w) (hq : q.length ≤ 1000000000) (hy : y.length ≤ 1000000000) (hn : sgn (Tx.bw ls) q = some t) (hm : sgn (Tx.bw ls) y = some [k]) :
    Calls Tryz.prog 29 #[s.v, sv q, sv y] w fun e w' => e = .returned (.tuple #[.agg #[.int .i64 ((Pt.lik (bt ls) t k).1 : Nat), .int .i64 ((Pt.lik (bt ls) t k).2 : Nat)], .int .i64 0]) ∧ Below w.heap.size w w' := by
  have J := LB.start h
  have HS := Lib.hid (J.sh.signs (hg.on J.sh.old) q hq)
  rw [hn] at HS
  have HS2 : Hid (∀ W, LB w ls s W → Calls Tryz.prog 26 #[.agg #[.slice s.A s.n s.c, .slice s.A2 s.n2 s.c2], sv y] W (SgPost W (some [k]))) := Lib.hid fun W hW => by
    have := hW.sh.signs (hg.on hW.sh.old) y hy
    rw [hm] at this
    exact this
  have hlt := sgn_length hn
  have hsh := h.short
  have HLk : Hid (∀ A c W, LB w ls s W → IRow W W.heap.size A t → t.length ≤ c → Calls Tryz.prog 20 #[.agg #[.slice s.E s.N s.cE, .int .i64 s.N, .int .i64 10, .slice s.L 10 s.cL, .slice s.S s.M s.cS], .slice A t.length c, .int .i64 k] W fun e w' => e = .returned (.agg #[.int .i64 ((Pt.lik (bt ls) t k).1 : Nat), .int .i64 ((Pt.lik (bt ls) t k).2 : Nat)]) ∧ LB w ls s w' ∧ Below W.heap.size W w') := Lib.hid fun A c W hW hr hc => by
    refine (likelyF_any s.E s.L s.S A s.cE s.cL s.cS s.N s.M c t.length k (bt ls) t W (hg.on hW.sh.old).ng hW.sh.sh.cmb hW.sh.sh.len hW.sh.sh.num hW.sh.sh.capE hW.sh.sh.capL hr rfl hc (by omega) (by omega)).mono ?_
    rintro e w' ⟨h1, h2⟩
    exact ⟨h1, hW.on h2, h2⟩
  clear h hg hq hn hsh hlt hm hy
  generalize Pt.lik (bt ls) t k = p at *
  go_enter Tryz.func29, Tryz.ntmps29
  go_wp2_with fail
  with_reducible refine HS.out.mono ?_
  rintro e w1 ⟨A, c, rfl, hc, hr, hb1⟩
  have J1 := J.on hb1
  have HS3 := Lib.hid (HS2.out w1 J1)
  clear HS J HS2 hb1
  have c0 := J1.sh.c0
  have c1 := J1.sh.c1
  go_wp2_with fail
  with_reducible refine HS3.out.mono ?_
  clear HS3
  rintro e w2 ⟨A3, c3, rfl, hc3, hr3, hb2⟩
  have J2 := J1.on hb2
  have hr2 := hr.on hb2
  obtain ⟨b, o, rfl, hbb, hcc⟩ := hr3 (by simp)
  have d0 : w2.cell? ⟨b, o, none⟩ = some (.int .i64 k) := hcc 0 (by simp)
  have hz : (([k].length : Int) != 1) = false := by simp
  clear J1 c0 c1 hr hb2 hcc hr3
  obtain ⟨c0, c1, c2, c3', c4, c5, c6⟩ := J2.sh.cells
  have hd0 := (Below.refl w2.heap.size w2).drew
  have J3 := J2.on hd0
  have HL2 := Lib.hid (HLk.out A c w2.drew J3 (hr2.on hd0) hc)
  clear HLk
  go_wp2_with fail
  refine wp_region_takes 7 [0, 1, 2, 3, 4, 5] [6] (fun w' => w'.cell? ⟨w.heap.size, 2, none⟩ = some (.slice s.E s.N s.cE) ∧ w'.cell? ⟨w.heap.size, 3, none⟩ = some (.int .i64 s.N) ∧ w'.cell? ⟨w.heap.size, 4, none⟩ = some (.int .i64 10) ∧ w'.cell? ⟨w.heap.size, 5, none⟩ = some (.slice s.L 10 s.cL) ∧ w'.cell? ⟨w.heap.size, 6, none⟩ = some (.slice s.S s.M s.cS) ∧ w'.cell? ⟨b, o, none⟩ = some (.int .i64 k)) (by kernel_rfl) (by kernel_rfl) ⟨c2, c3', c4, c5, c6, d0⟩ ?_
  refine wpTakes_cons (v := ?_) _ at0 rfl ?_ ?_ ?_
  rotate_left 1
  · rintro W ⟨x0, x1, x2, x3, x4, x5⟩
    go_simp
    rfl
  · exact fun _ _ _ h => h
  simp only [Act.put, List.setIfInBounds_toArray, List.set_cons_zero, List.set_cons_succ]
  refine wpTakes_cons (v := ?_) _ at1 rfl ?_ ?_ ?_
  rotate_left 1
  · rintro W ⟨x0, x1, x2, x3, x4, x5⟩
    go_simp
    rfl
  · exact fun _ _ _ h => h
  simp only [Act.put, List.setIfInBounds_toArray, List.set_cons_zero, List.set_cons_succ]
  refine wpTakes_cons (v := ?_) _ at2 rfl ?_ ?_ ?_
  rotate_left 1
  · rintro W ⟨x0, x1, x2, x3, x4, x5⟩
    go_simp
    rfl
  · exact fun _ _ _ h => h
  simp only [Act.put, List.setIfInBounds_toArray, List.set_cons_zero, List.set_cons_succ]
  refine wpTakes_cons (v := ?_) _ at3 rfl ?_ ?_ ?_
  rotate_left 1
  · rintro W ⟨x0, x1, x2, x3, x4, x5⟩
    go_simp
    rfl
  · exact fun _ _ _ h => h
  simp only [Act.put, List.setIfInBounds_toArray, List.set_cons_zero, List.set_cons_succ]
  refine wpTakes_cons (v := ?_) _ at4 rfl ?_ ?_ ?_
  rotate_left 1
  · rintro W ⟨x0, x1, x2, x3, x4, x5⟩
    go_simp
    rfl
  · exact fun _ _ _ h => h
  simp only [Act.put, List.setIfInBounds_toArray, List.set_cons_zero, List.set_cons_succ]
  refine wpTakes_cons (v := ?_) _ at5 rfl ?_ ?_ ?_
  rotate_left 1
  · rintro W ⟨x0, x1, x2, x3, x4, x5⟩
    go_simp
    rfl
  · exact fun _ _ _ h => h
  simp only [Act.put, List.setIfInBounds_toArray, List.set_cons_zero, List.set_cons_succ]
  refine wpTakes_nil (wpCalls_cons _ at6 rfl fun K' hK' => ?_)
  go_simp
  go_at_call 20
  refine HL2.out.mono ?_
  rintro e w3 ⟨rfl, J4, hb4⟩
  refine hK'.out _ _ ⟨J4.sh.c2, J4.sh.c3, J4.sh.c4, J4.sh.c5, J4.sh.c6, (hb4.cell (p := ⟨b, o, none⟩) hbb).trans d0⟩ (wpCalls_nil ?_)
  clear hK' HL2 J2 J3 hr2 hd0
  simp only [List.drop_succ_cons, List.drop_zero]
  have r0 := J4.res.c0
  have r1 := J4.res.c1
  have f0 := J4.res.f0
  have f1 := J4.res.f1
  go_wp2
  have X := J4.res.set (.int .i64 (p.1 : Nat)) (.int .i64 (p.2 : Nat))
  have s0 := X.c0
  have s1 := X.c1
  exact bodyPost_ret (v := .tuple #[.agg #[.int .i64 (p.1 : Nat), .int .i64 (p.2 : Nat)], .int .i64 0]) (by simp [results, Tryz.results29, go_sem, s0, s1]) rfl ⟨rfl, X.old⟩

end Go.Proofs.YtoejenejleocdabGreatDoor
