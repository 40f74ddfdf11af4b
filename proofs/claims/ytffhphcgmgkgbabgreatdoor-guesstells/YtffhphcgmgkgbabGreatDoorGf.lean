/- The walk of seenBehind of package guess. -/
import Derived.Test.YtffhphcgmgkgbabGreatDoorGe
namespace Go.Proofs.YtffhphcgmgkgbabGreatDoor
open Go.RowKit
attribute [local irreducible] Bt.pop Bt.popF

theorem up_getD (K : List Nat) (k : Nat) : (up K).getD k 0 = ((K.getD k 0 : Nat) : Int) := by
  unfold up
  simp only [List.getD_eq_getElem?_getD, List.getElem?_map]
  cases K[k]? <;> rfl

theorem res_set {W : World} {R : Nat} {f : Nat → Value} (h : W.rowIs R 69 3 f) (v : Value) (a u : Nat) : (((W.setCell ⟨R, 0, none⟩ v).setCell ⟨R, 1, none⟩ (.int .i64 a)).setCell ⟨R, 2, none⟩ (.int .i64 u)).rowIs R 69 3 (bhF v a u) :=
  (((h.set 0 v).set 1 _).set 2 _).congr (fun i hi => by
    match i, hi with
    | 0, _ => rfl
    | 1, _ => rfl
    | 2, _ => rfl)

set_option maxRecDepth 100000 in
set_option maxHeartbeats 4000000 in
theorem seenBehind_any (E L S A : Option Addr) (cE cL cS N M c : Nat) (l s : List Int) (w : World) (h : Cmb w E L S l) (hN : N = l.length) (hM : M = En.most l + 2) (hE : N ≤ cE) (hL : 10 ≤ cL) (hr : IRow w w.heap.size A s) (hs : s.length ≤ 2) :
    Calls Tryz.prog 45 #[.agg #[.slice E N cE, .int .i64 N, .int .i64 10, .slice L 10 cL, .slice S M cS], .slice A s.length c] w (SeenIs w l s) := by
  obtain ⟨w0, hw0⟩ : ∃ w0, w0 = w.alloc (.cells #[.slice E N cE, .int .i64 N, .int .i64 10, .slice L 10 cL, .slice S M cS] 33) := ⟨_, rfl⟩
  have hb : Below w.heap.size w w0 := by rw [hw0]; exact (Below.refl _ w).alloc (Nat.le_refl _) _
  have J : CB w w.heap.size E L S cE cL cS N M l w0 := by rw [hw0]; exact CB.start h hN hM hE hL (Below.refl _ _) 33
  have HJ : Hid (∀ W, Below w0.heap.size w0 W → CB w w.heap.size E L S cE cL cS N M l W) := Lib.hid fun W hW => J.on hW
  have HGr : Hid (∀ W, Below w0.heap.size w0 W → Calls Tryz.prog 24 #[.agg #[.slice E N cE, .int .i64 N, .int .i64 10, .slice L 10 cL, .slice S M cS]] W fun e w' => e = .returned (.int .i64 (En.most l : Nat)) ∧ Below W.heap.size W w') := Lib.hid fun W hW => (J.on hW).greatest
  have HC : Hid (∀ W, Below w0.heap.size w0 W → Calls Tryz.prog 55 #[.slice A s.length c] W fun e w' => ∃ v, e = .returned v ∧ w'.ownsRow W.heap.size 3 1 v s.length (s.map (Value.int .i64)) ∧ Below W.heap.size W w') := Lib.hid fun W hW => clone_any A c s W ((hr.on hb).on hW) (by omega)
  have HB : Hid (∀ W, Below w0.heap.size w0 W → Calls Tryz.prog 56 #[.agg #[.slice E N cE, .int .i64 N, .int .i64 10, .slice L 10 cL, .slice S M cS], .slice A s.length c] W (OLs W (up (En.bhd l s)))) := Lib.hid fun W hW => behinds_own E L S A cE cL cS N M c l s W (J.on hW).cmb hN hM hE hL ((hr.on hb).on hW) (by omega)
  have HW : Hid (∀ (R G B m X cap y1 n x : Nat) (K : List Int) (vY : Value) (a u : Nat) (f : Nat → Nat) W, SB w0 R G B m X cap y1 n s (x : Nat) K vY a u f W → Calls Tryz.prog 57 #[.agg #[.slice E N cE, .int .i64 N, .int .i64 10, .slice L 10 cL, .slice S M cS], .slice (some ⟨X, 0, none⟩) (n + 1) cap] W fun e w' => e = .returned (.int .i64 (Pt.wt l s x : Nat)) ∧ SB w0 R G B m X cap y1 n s (x : Nat) K vY a u f w') := Lib.hid fun R G B m X cap y1 n x K vY a u f W hW => by
    have hc := hW.capOk
    have hn := hW.len
    subst hn
    exact (weight_any E L S (some ⟨X, 0, none⟩) cE cL cS N M cap l s x W (J.on hW.sa.old).cmb hN hM hE hL hW.row hc hs).mono fun e w' hh => And.intro hh.1 (hW.on hh.2)
  have hsg := h.sg
  have hmost : En.most l < 1024 := h.fit
  have hlen : l.length ≤ 4096 := h.small
  have P0 : Hid (∀ x, Pt.pw l s 0 x = 0) := Lib.hid (Pt.pw_zero l s)
  have Pn := Lib.hid (Pt.p_none l s)
  have Ps := Lib.hid (Pt.p_some l s)
  have Pe := Lib.hid (Pt.pw_end hsg s)
  have Pae := Lib.hid (Pt.pa_end l s)
  have Pue := Lib.hid (Pt.pu_end l s)
  have Pb := Lib.hid (Pt.bhd_le l s)
  have Pal := Lib.hid (Pt.pa_le hsg s)
  have Pul := Lib.hid (Pt.pu_le l s)
  have Pwl := Lib.hid (Pt.wt_len hsg s)
  have Pbl := Pt.bhd_len l s
  have HUg := Lib.hid (up_getD (En.bhd l s))
  have HUl := Lib.hid (up_len (En.bhd l s))
  have HW0 := Lib.hid hw0
  have Hb := Lib.hid hb
  have Hsz : Hid (w0.heap.size = w.heap.size + 1) := Lib.hid (by rw [hw0]; simp)
  have HMv : Hid (M = En.most l + 2) := Lib.hid hM
  have Hn : Hid (s.length = s.length) := Lib.hid rfl
  have hP0 : Pt.pa l s 0 = 0 := rfl
  have hU0 : Pt.pu l s 0 = 0 := rfl
  have HP0 := Lib.hid hP0
  have HU0 := Lib.hid hU0
  unfold SeenIs
  generalize hm : En.most l = m at *
  have Hm := Lib.hid hm
  have hmk := run_make_row' (P := Tryz.prog) 22 3 (.int .i64 0) 8 Tryz.underlying22 infoInt4 rfl .i64 .i64 (m + 1) (by omega) (by omega)
  rw [show ((m + 1 : Nat) : Int) = (m : Int) + 1 from by omega] at hmk
  generalize hnn : s.length = n at *
  have HNn := Lib.hid hnn
  have hl2 : l.length ≤ 4096 := hlen
  clear h hN hM hr J hb hw0 hm hnn Hn hsg hP0 hU0 hlen
  have hR := World.rowIs_alloc w0 #[.slice none 0 0, .int .i64 0, .int .i64 0] 69 (bhF (.slice none 0 0) 0 0) (fun i hi => by
    match i, hi with
    | 0, _ => rfl
    | 1, _ => rfl
    | 2, _ => rfl)
  have hb1 : Below w0.heap.size w0 (w0.alloc (.cells #[.slice none 0 0, .int .i64 0, .int .i64 0] 69)) := (Below.refl _ _).alloc (Nat.le_refl _) _
  go_enter Tryz.func45, Tryz.ntmps45
  go_wp2_with fail
  rw [← HW0.out]
  with_reducible refine (HGr.out _ hb1).mono ?_
  rintro e w1 ⟨rfl, hb2⟩
  have hR1 := hR.of_block (hb2.block _ (by simp))
  have hb3 := hb1.trans (hb2.mono hb1.size)
  have hsz1 : w0.heap.size + 1 ≤ w1.heap.size := by have := hb2.size; simpa using this
  have hR2 : w1.rowIs (w.heap.size + 1) 69 3 (bhF (.slice none 0 0) 0 0) := by rw [← Hsz.out]; exact hR1
  have J3 := SA.start (m := m) hR2 hb3 (by rw [Hsz.out]; exact Nat.le_refl _)
  have HC3 := Lib.hid (HC.out _ J3.old)
  clear HGr hb2 hb1 hR hR1 hR2 hb3 HC
  go_wp2_with fail
  with_reducible refine HC3.out.mono ?_
  rintro e w4 ⟨v, rfl, h1, h2⟩
  clear HC3 hmk
  have J4 := J3.on h2
  clear J3
  simp only [World.size_alloc] at h1
  obtain ⟨A4, c4, rfl, hcx⟩ := own_slice h1
  have hbs : w1.heap.size + 1 + 1 ≤ w4.heap.size := by have := h2.size; simpa using this
  clear h2
  go_wp2_with (at_builtin; refine wpList_app1 _ rfl _ _ 22 rfl (w1.heap.size + 1 + 1) 3 (.int .i64 0) 8 Tryz.underlying22 infoInt4 rfl _ n _ rfl w4.heap.size (.int .i64 0) rfl (own_below h1 ((Below.refl _ _).alloc (Nat.le_refl _) _)) (new1 _ _ _) (by simp) (by simp [Value.oneCell']) (by unfold maxLen; omega) (by omega) (by simp; omega) ?_; intro v' w5 hown hg _; obtain ⟨X, cap, hv', _, _⟩ := hown.form (by omega); subst hv'; have J5 := (J4.on ((Below.refl _ _).alloc (Nat.le_refl _) (.cells #[.int .i64 0] 3))).grown hg (fun k hk => by have := (h1.lt k hk).1; omega); have c0 := (HJ.out w5 J5.old).c0; have c1 := (HJ.out w5 J5.old).c1; have c2 := (HJ.out w5 J5.old).c2; have c3 := (HJ.out w5 J5.old).c3; have c4' := (HJ.out w5 J5.old).c4; clear hg h1 hcx hbs J4)
  generalize hB : w1.heap.size + 1 = B at *
  generalize hG : w1.heap.size = G at *
  clear hB hG
  generalize hR : w.heap.size + 1 = R at *
  clear hR
  with_reducible refine (HB.out w5 J5.old).mono ?_
  rintro e w6 ⟨vY, rfl, hO⟩
  have hXy := (hown.lt X rfl).2
  have JB : SB w0 R G B m X cap w5.heap.size n s 0 (up (En.bhd l s)) vY 0 0 (fun _ => 0) w6 := ⟨J5.on hO.old, own_below hown hO.old, hO.own, hXy, HNn.out.symm⟩
  clear HB J5 hown hO c0 c1 c2 c3 c4' hXy
  generalize w5.heap.size = y1 at *
  obtain ⟨Y, cy, rfl, _⟩ := own_slice JB.bh
  rw [HUl.out] at JB ⊢
  generalize hk0 : (En.bhd l s).length = kk at *
  have HK0 := Lib.hid hk0
  clear hk0
  go_wp2
  go_loopw [22] (fun t W => ∃ (k : Nat) (q : Int), k ≤ kk ∧ t = .int .i64 k ∧ SB w0 R G B m X cap y1 n s q (up (En.bhd l s)) (.slice Y kk cy) (Pt.pa l s k) (Pt.pu l s k) (Pt.pw l s k) W) (fun t _ => kk - (intOf t).toNat)
  case atStart => exact ⟨0, 0, Nat.zero_le _, rfl, by rw [HP0.out, HU0.out]; exact JB.congr (fun x _ => (P0.out x).symm)⟩
  case round =>
    obtain ⟨k, q, hk, rfl, J⟩ := hrel
    clear JB P0 HP0 HU0
    by_cases hlt : k < kk
    · have hlz : (k : Int) < (kk : Int) := by omega
      obtain ⟨bY, cY, oY, hY, d1⟩ := J.at_ k (by rw [HUl.out]; exact hlt)
      injection hY with hY hY2 hY3
      clear hY2 hY3
      subst hY
      rw [HUg.out] at d1
      have hxm := Pb.out k
      have HP := Lib.hid (Pn.out k hlt)
      have HS := Lib.hid (Ps.out k hlt)
      have hal := Pal.out k
      have hul := Pul.out k
      generalize (En.bhd l s).getD k 0 = x at *
      by_cases hx0 : x = 0
      · subst hx0
        obtain ⟨p1, p2, p3⟩ := HP.out rfl
        have J' : SB w0 R G B m X cap y1 n s q (up (En.bhd l s)) (.slice (some ⟨bY, oY, none⟩) kk cy) (Pt.pa l s (k + 1)) (Pt.pu l s (k + 1)) (Pt.pw l s (k + 1)) wr := by
          rw [p2, p3]; exact J.congr (fun x _ => (p1 x).symm)
        have HJ' := Lib.hid J'
        clear p1 p2 p3 J' J HP HS HW HJ Pn Ps Pe Pae Pue Pb Pal Pul Pwl HUg HUl
        go_wp2
        go_roundw
        case rel => exact ⟨k + 1, q, by omega, by go_num, HJ'.out⟩
        case measure => simp [intOf]; omega
      · obtain ⟨p1, p2, p3⟩ := HS.out x rfl hx0
        have Q1 := Lib.hid p1
        have Q2 := Lib.hid p2
        have Q3 := Lib.hid p3
        have hwl := Pwl.out x
        have hz0 : ((x : Int) == 0) = false := by simp; omega
        have HWx := Lib.hid (HW.out R G B m X cap y1 n x (up (En.bhd l s)) (.slice (some ⟨bY, oY, none⟩) kk cy) (Pt.pa l s k) (Pt.pu l s k) (Pt.pw l s k))
        clear p1 p2 p3 HP HS HW Pn Ps Pe Pae Pue Pb Pal Pul Pwl HUg HUl
        have cl := J.last
        have fl := J.mo.frozenAt n
        have J2 := J.setM (x : Int)
        have hcap := J.capOk
        clear J
        go_upto_region 8 with fail
        clear cl fl
        have C2 := HJ.out _ J2.sa.old
        have hb0 := J2.sa.b0
        have J3 := J2.on (Below.refl _ _).drew
        have hxz : (x : Int) < (m : Int) + 1 := by omega
        have hxz2 : x < m + 1 := by omega
        generalize wr.setCell ⟨X, n, none⟩ (.int .i64 x) = V at *
        refine wp_region_takes 6 [0, 1, 2, 3, 4] [5] (fun w' => w'.cell? ⟨B, 0, none⟩ = some (.slice (some ⟨G, 0, none⟩) (m + 1) (m + 1)) ∧ w'.cell? ⟨w.heap.size, 0, none⟩ = some (.slice E N cE) ∧ w'.cell? ⟨w.heap.size, 1, none⟩ = some (.int .i64 N) ∧ w'.cell? ⟨w.heap.size, 2, none⟩ = some (.int .i64 10) ∧ w'.cell? ⟨w.heap.size, 3, none⟩ = some (.slice L 10 cL) ∧ w'.cell? ⟨w.heap.size, 4, none⟩ = some (.slice S M cS)) (by kernel_rfl) (by kernel_rfl) ⟨hb0, C2.c0, C2.c1, C2.c2, C2.c3, C2.c4⟩ ?_
        refine wpTakes_cons (v := ?_) _ at0 rfl ?_ ?_ ?_
        rotate_left 1
        · rintro W ⟨x0, x1, x2, x3, x4, x5⟩
          go_simp
          rfl
        · exact fun _ _ _ h => h
        simp only [Act.put, List.setIfInBounds_toArray, List.set_cons_zero, List.set_cons_succ]
        refine wpTakes_cons (v := ?_) _ at1 rfl ?_ ?_ ?_
        rotate_left 1
        · rintro W ⟨x0, x1, x2, x3, x4, x5⟩
          go_simp
          rfl
        · exact fun _ _ _ h => h
        simp only [Act.put, List.setIfInBounds_toArray, List.set_cons_zero, List.set_cons_succ]
        refine wpTakes_cons (v := ?_) _ at2 rfl ?_ ?_ ?_
        rotate_left 1
        · rintro W ⟨x0, x1, x2, x3, x4, x5⟩
          go_simp
          rfl
        · exact fun _ _ _ h => h
        simp only [Act.put, List.setIfInBounds_toArray, List.set_cons_zero, List.set_cons_succ]
        refine wpTakes_cons (v := ?_) _ at3 rfl ?_ ?_ ?_
        rotate_left 1
        · rintro W ⟨x0, x1, x2, x3, x4, x5⟩
          go_simp
          rfl
        · exact fun _ _ _ h => h
        simp only [Act.put, List.setIfInBounds_toArray, List.set_cons_zero, List.set_cons_succ]
        refine wpTakes_cons (v := ?_) _ at4 rfl ?_ ?_ ?_
        rotate_left 1
        · rintro W ⟨x0, x1, x2, x3, x4, x5⟩
          go_simp
          rfl
        · exact fun _ _ _ h => h
        simp only [Act.put, List.setIfInBounds_toArray, List.set_cons_zero, List.set_cons_succ]
        refine wpTakes_nil (wpCalls_cons _ at5 rfl fun K' hK' => ?_)
        go_simp
        go_at_call 57
        refine (HWx.out _ J3).mono ?_
        rintro e w7 ⟨rfl, J4⟩
        have C4 := HJ.out _ J4.sa.old
        refine hK'.out _ _ ⟨J4.sa.b0, C4.c0, C4.c1, C4.c2, C4.c3, C4.c4⟩ (wpCalls_nil ?_)
        clear hK' J3 J2 C2 hb0 C4 HWx
        simp only [List.drop_succ_cons, List.drop_zero]
        have e0 : w7.cell? ⟨G, x, none⟩ = some (.int .i64 (Pt.pw l s k x : Nat)) := J4.sa.wts.cell (by omega)
        have f0 := J4.sa.wts.frozen x
        have J5 := J4.setW x (Pt.wt l s x)
        clear J4
        have HF : Hid (∀ z, z ≤ m → (if z = x then Pt.wt l s x else Pt.pw l s k z) = Pt.pw l s (k + 1) z) := Lib.hid fun z _ => (Q1.out z).symm
        generalize Pt.wt l s x = y at *
        generalize Pt.pa l s k = a0 at *
        generalize Pt.pu l s k = u0 at *
        go_wp2
        clear e0 f0
        have J6 := J5.setA (a0 + y)
        rw [Int.natCast_add] at J6
        have b0 := J5.sa.b0
        have b1 := J5.sa.b1
        have e1 : (w7.setCell ⟨G, x, none⟩ (.int .i64 y)).cell? ⟨G, x, none⟩ = some (.int .i64 y) := by
          have := J5.sa.wts.cell (i := x) (by omega)
          simpa using this
        have f1 := J5.sa.bx.frozen 1
        clear J5
        generalize w7.setCell ⟨G, x, none⟩ (.int .i64 y) = V7 at *
        go_region
        all_goals
          clear b0 b1 e1 f1
          have J7 := J6.on (Below.refl _ _).drew
          have J8 := J7.setU (u0 + 1)
          rw [Int.natCast_add] at J8
          have b2 := J7.sa.b2
          have f2 := J7.sa.bx.frozen 2
          go_wp2
          clear b2 f2
          go_roundw
          case rel => exact ⟨k + 1, x, by omega, by go_num, by rw [Q2.out, Q3.out]; exact J8.congr HF.out⟩
          case measure => simp [intOf]; omega
    · obtain rfl : k = kk := by omega
      have J' : SB w0 R G B m X cap y1 n s q (up (En.bhd l s)) (.slice Y k cy) (Pt.all l s) (Pt.unl l s) (Pt.wz l s) wr := by
        rw [← Pae.out, ← Pue.out]; exact J.congr (fun x _ => Pe.out x)
      clear J HW HJ Pn Ps Pe Pae Pue Pb Pal Pul Pwl HUg HUl
      have b0 := J'.sa.b0
      have b1 := J'.sa.b1
      have b2 := J'.sa.b2
      have r0 := J'.sa.res.cell (i := 0) (by omega)
      have r1 := J'.sa.res.cell (i := 1) (by omega)
      have r2 := J'.sa.res.cell (i := 2) (by omega)
      have g0 := J'.sa.res.frozen 0
      have g1 := J'.sa.res.frozen 1
      have g2 := J'.sa.res.frozen 2
      have hold := J'.sa.old
      have hwts := J'.sa.wts
      have q1 := J'.sa.r1
      have q2 := J'.sa.r2
      have hrr := J'.sa.res
      clear J'
      have HE := Lib.hid (res_set hrr (.slice (some ⟨G, 0, none⟩) (m + 1) (m + 1)) (Pt.all l s) (Pt.unl l s))
      clear hrr
      go_wp2
      clear b0 b1 b2 r0 r1 r2 g0 g1 g2
      have k0 := HE.out.cell (i := 0) (by omega)
      have k1 := HE.out.cell (i := 1) (by omega)
      have k2 := HE.out.cell (i := 2) (by omega)
      refine bodyPost_ret (v := .agg #[.slice (some ⟨G, 0, none⟩) (m + 1) (m + 1), .int .i64 (Pt.all l s : Nat), .int .i64 (Pt.unl l s : Nat)]) (by simp [results, Tryz.results45, go_sem, k0, k1, k2, bhF]) rfl ⟨G, rfl, by have := Hb.out.size; omega, ?_, ?_⟩
      · exact ((hwts.setOther (a := ⟨R, 0, none⟩) (by show G ≠ R; omega) _).setOther (a := ⟨R, 1, none⟩) (by show G ≠ R; omega) _).setOther (a := ⟨R, 2, none⟩) (by show G ≠ R; omega) _
      · have h9 := ((hold.setCell (p := ⟨R, 0, none⟩) q1 (.slice (some ⟨G, 0, none⟩) (m + 1) (m + 1))).setCell (p := ⟨R, 1, none⟩) q1 (.int .i64 (Pt.all l s : Nat))).setCell (p := ⟨R, 2, none⟩) q1 (.int .i64 (Pt.unl l s : Nat))
        exact Hb.out.trans (h9.mono Hb.out.size)

end Go.Proofs.YtffhphcgmgkgbabGreatDoor
