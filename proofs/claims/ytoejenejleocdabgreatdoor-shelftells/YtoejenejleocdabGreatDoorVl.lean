/- The law ShelfTells: words that the book has. -/
import Derived.Test.YtoejenejleocdabGreatDoorJs
import Derived.Test.YtoejenejleocdabGreatDoorRh
namespace Go.Proofs.YtoejenejleocdabGreatDoor
open Go.RowKit Tx
attribute [local irreducible] Bt.pop Bt.popF

/-- one sign, or not one: what SignsOf answers -/
def OwnP (r : Option (List Int)) (A : Option Addr) (n : Nat) (bb : Bool) (W : World) : Prop :=
  (∃ k, r = some [k] ∧ n = 1 ∧ bb = true ∧ ∃ b o, A = some ⟨b, o, none⟩ ∧ b < W.heap.size ∧ W.cell? ⟨b, o, none⟩ = some (.int .i64 k)) ∨ ((∀ u, r = some u → u.length ≠ 1) ∧ ((bb = false) ∨ (bb = true ∧ n ≠ 1)))
theorem own_sg {w : World} {r : Option (List Int)} {e : Ending} {w' : World} (h : SgPost w r e w') : ∃ A n c bb, (e = .returned (.tuple #[.slice A n c, .bool bb]) ∧ n ≤ 4000000 + n ∧ OwnP r A n bb w') ∧ Below w.heap.size w w' := by
  cases r with
  | none => exact ⟨none, 0, 0, false, ⟨h.1, by omega, Or.inr ⟨(fun u hu => by cases hu), Or.inl rfl⟩⟩, h.2⟩
  | some t =>
    obtain ⟨A, c, h1, _, h3, h2⟩ := h
    refine ⟨A, t.length, c, true, ⟨h1, by omega, ?_⟩, h2⟩
    by_cases ht : t.length = 1
    · obtain ⟨k, rfl⟩ := List.length_eq_one_iff.1 ht
      obtain ⟨b, o, e1, hb, hc⟩ := h3 (by simp)
      exact .inl ⟨k, rfl, rfl, rfl, b, o, e1, hb, hc 0 (by simp)⟩
    · exact .inr ⟨fun u hu => by cases hu; exact ht, .inr ⟨rfl, ht⟩⟩
theorem OwnP.on {r : Option (List Int)} {A : Option Addr} {n : Nat} {bb : Bool} {W W' : World} (h : OwnP r A n bb W) (hb : Below W.heap.size W W') : OwnP r A n bb W' := by
  rcases h with ⟨k, h1, h2, h3, b, o, h4, h5, h6⟩ | h
  · exact .inl ⟨k, h1, h2, h3, b, o, h4, Nat.lt_of_lt_of_le h5 hb.size, (hb.cell (p := ⟨b, o, none⟩) h5).trans h6⟩
  · exact .inr h
theorem own_ne2 {k : Int} {r : Option (List Int)} (h1 : r = some [k]) (h2 : ∀ u, r = some u → u.length ≠ 1) : False := h2 _ h1 rfl
/-- what Likely answers of it -/
def LikP (ls : List (List Wd)) (t : List Int) (r : Option (List Int)) (p1 p2 g : Int) : Prop :=
  (∃ k, r = some [k] ∧ p1 = ((Pt.lik (bt ls) t k).1 : Nat) ∧ p2 = ((Pt.lik (bt ls) t k).2 : Nat) ∧ g = 0) ∨ ((∀ u, r = some u → u.length ≠ 1) ∧ p1 = 0 ∧ p2 = 0 ∧ g = 3)

set_option maxRecDepth 100000 in
set_option maxHeartbeats 8000000 in
theorem shelfTells_some (l q o : Wd) (t : List Int) (w : World) (hg : GV w) (hq : q.length ≤ 1048576) (ho : o.length ≤ 1048576) (he : errB l = 0) (hn : sgn (Tx.bw (linesOf l)) q = some t) :
    Calls Tryz.prog 11 #[sv l, sv q, sv o] w fun e w' => e = .returned (.bool true) ∧ Below w.heap.size w w' := by
  obtain ⟨_, hform, hfew⟩ := errB_ok he
  have H1 := Lib.hid (open_ok l w hg he)
  unfold OpenOK at H1
  have H2 : Hid (∀ W, Calls Tryz.prog 33 #[sv l] W (ReadOK l W)) := Lib.hid fun W => (readText_any l W).mono fun e w' hh => by
    rcases hh with ⟨_, h⟩ | ⟨h, _⟩
    · exact h
    · exact absurd he h
  unfold ReadOK at H2
  generalize linesOf l = ls at *
  have H3 : Hid (∀ s B D A A2 c c2 W, TL w ls s B D A A2 c c2 W → Calls Tryz.prog 34 #[.agg #[.slice s.A s.n s.c, .slice s.A2 s.n2 s.c2], .agg #[.slice A s.n c, .slice A2 s.n2 c2]] W fun e w' => e = .returned (.bool true) ∧ Below W.heap.size W w') := Lib.hid fun s B D A A2 c c2 W h => h.same
  have H4 : Hid (∀ s B D A A2 c c2 W, TL w ls s B D A A2 c c2 W → Calls Tryz.prog 35 #[] W fun e w' => e = .returned (.bool true) ∧ Below W.heap.size W w') := Lib.hid fun s B D A A2 c c2 W h => shelvesL_any W (h.gv hg)
  have Htl : t.length ≤ 17592186044416 := by have := sgn_length hn; omega
  have H5 : Hid (∀ s B D A A2 c c2 W, TL w ls s B D A A2 c c2 W → Calls Tryz.prog 36 #[.agg #[.slice A s.n c, .slice A2 s.n2 c2], sv q] W fun e w' => ∃ At ct, (e = .returned (.tuple #[.slice At t.length ct, .bool true]) ∧ t.length ≤ ct ∧ IRow w' w'.heap.size At t) ∧ Below W.heap.size W w') := Lib.hid fun s B D A A2 c c2 W h => by
    have := h.signs hg q hq
    rw [hn] at this
    exact this.mono fun e w' ⟨At, ct, h1, h2, h3, h4⟩ => ⟨At, ct, ⟨h1, h2, h3⟩, h4⟩
  have H6 : Hid (∀ s B D A A2 c c2 W, TL w ls s B D A A2 c c2 W → Calls Tryz.prog 36 #[.agg #[.slice A s.n c, .slice A2 s.n2 c2], sv o] W fun e w' => ∃ A n c bb, (e = .returned (.tuple #[.slice A n c, .bool bb]) ∧ n ≤ 4000000 + n ∧ OwnP (sgn (Tx.bw ls) o) A n bb w') ∧ Below W.heap.size W w') := Lib.hid fun s B D A A2 c c2 W h => (h.signs hg o ho).mono fun e w' hh => own_sg hh
  have H7 : Hid (∀ s B D A A2 c c2 W, TL w ls s B D A A2 c c2 W → Calls Tryz.prog 29 #[s.v, sv q, sv o] W fun e w' => ∃ p1 p2 g : Int, (e = .returned (.tuple #[.agg #[.int .i64 p1, .int .i64 p2], .int .i64 g]) ∧ LikP ls t (sgn (Tx.bw ls) o) p1 p2 g) ∧ Below W.heap.size W w') := Lib.hid fun s B D A A2 c c2 W h => by
    by_cases hk : ∀ u, sgn (Tx.bw ls) o = some u → u.length ≠ 1
    · exact (likelyS_no2 ls s q o t W h.sh.sh (h.gv hg) (by omega) (by omega) hn hk).mono fun e w' hh => ⟨0, 0, 3, ⟨hh.1, .inr ⟨hk, rfl, rfl, rfl⟩⟩, hh.2⟩
    · obtain ⟨k, hk⟩ : ∃ k, sgn (Tx.bw ls) o = some [k] := by
        cases hr : sgn (Tx.bw ls) o with
        | none => exact absurd (fun u hu => by rw [hr] at hu; cases hu) hk
        | some u =>
          by_cases hu : u.length = 1
          · obtain ⟨k, rfl⟩ := List.length_eq_one_iff.1 hu
            exact ⟨k, rfl⟩
          · exact absurd (fun u' hu' => by rw [hr] at hu'; cases hu'; exact hu) hk
      exact (likelyS_yes ls s q o t k W h.sh.sh (h.gv hg) (by omega) (by omega) hn hk).mono fun e w' hh => ⟨_, _, _, ⟨hh.1, .inl ⟨k, hk, rfl, rfl, rfl⟩⟩, hh.2⟩
  have H8 : Hid (∀ s B D A A2 c c2 W, TL w ls s B D A A2 c c2 W → Calls Tryz.prog 30 #[s.v, sv q] W fun e w' => e = .returned (.tuple #[sv (gsW ls t), .int .i64 0]) ∧ Below W.heap.size W w') := Lib.hid fun s B D A A2 c c2 W h => guessS_yes ls s q t W h.sh.sh (h.gv hg) (by omega) hn
  have H9 : Hid (∀ s B D A A2 c c2 W, TL w ls s B D A A2 c c2 W → ∀ At ct, IRow W W.heap.size At t → Calls Tryz.prog 37 #[.slice A2 s.n2 c2, .slice At t.length ct] W (Ints W (up (En.plc (bt ls) t)))) := Lib.hid fun s B D A A2 c c2 W h At ct ht => h.placesOf At ct t ht Htl
  have H10 : Hid (∀ s B D A A2 c c2 W, TL w ls s B D A A2 c c2 W → Calls Tryz.prog 24 #[s.v, sv q] W fun e w' => e = .returned (.int .i64 ((up (En.plc (bt ls) t)).length : Nat)) ∧ Below W.heap.size W w') := Lib.hid fun s B D A A2 c c2 W h => by
    have := countS_any ls s q W h.sh.sh (h.gv hg) (by omega)
    rw [show cntW ls q = (up (En.plc (bt ls) t)).length by unfold cntW; rw [hn]; simp [up]] at this
    exact this
  have H11 : Hid (∀ s B D A A2 c c2 W, TL w ls s B D A A2 c c2 W → Calls Tryz.prog 27 #[s.v, sv q] W (Ints W (up (En.plc (bt ls) t)))) := Lib.hid fun s B D A A2 c c2 W h => by
    have := placesS_any ls s q W h.sh.sh (h.gv hg) (by omega)
    rw [show plcW ls q = En.plc (bt ls) t by unfold plcW; rw [hn]] at this
    exact this
  have HLn : (up (En.plc (bt ls) t)).length ≤ 1000000 := by
    have h1 := En.plc_le_n (bt ls) t
    have h2 := bt_length ls
    have h3 := toks_length ls
    have h4 := hfew
    unfold up
    rw [List.length_map]
    omega
  have H12 : Hid (∀ P Q c c' W, IRow W W.heap.size P (up (En.plc (bt ls) t)) → IRow W W.heap.size Q (up (En.plc (bt ls) t)) → Calls Tryz.prog 38 #[.slice P (up (En.plc (bt ls) t)).length c, .slice Q (up (En.plc (bt ls) t)).length c'] W fun e w' => e = .returned (.bool true) ∧ Below W.heap.size W w') := Lib.hid fun P Q c c' W h1 h2 =>
    (sameInts_ints P Q c c' _ _ W h1 h2 (by omega)).mono fun e w' hh => by
      obtain ⟨h1, k, rfl⟩ := hh
      exact ⟨by rw [h1]; simp, Below.drewN (Below.refl _ _) k⟩
  have H13 : Hid (∀ s B D A A2 c c2 W, TL w ls s B D A A2 c c2 W → ∀ At ct x, IRow W W.heap.size At t → t.length ≤ ct → Calls Tryz.prog 21 #[.slice A2 s.n2 c2, .slice At t.length ct, .int .i64 x, .int .i64 ((s.n : Int) + 1)] W fun e w' => e = .returned (.agg #[.int .i64 ((Pt.lik (bt ls) t x).1 : Nat), .int .i64 ((Pt.lik (bt ls) t x).2 : Nat)]) ∧ Below W.heap.size W w') := Lib.hid fun s B D A A2 c c2 W h At ct x ht hct => h.likelyOf At ct t ht hct Htl x
  generalize up (En.plc (bt ls) t) = PL at *
  generalize hOr : sgn (Tx.bw ls) o = r at *
  clear hOr hg hq ho he hn
  go_enter Tryz.func11, Tryz.ntmps11
  go_wp2_with fail
  with_reducible refine H1.out.mono ?_
  rintro e w1 ⟨s, rfl, hsh, hb1⟩
  have J0 := SHB.start hsh hb1
  clear H1 hsh hb1
  go_wp2_with fail
  with_reducible refine (H2.out _).mono ?_
  rintro e w2 ⟨A, n, c, A2, n2, c2, rfl, hbk, _, hb2⟩
  have J1 := J0.on hb2
  obtain rfl : n = s.n := hbk.wlen.trans J1.sh.book.wlen.symm
  obtain rfl : n2 = s.n2 := hbk.tlen.trans J1.sh.book.tlen.symm
  have J2 := TL.start (c2 := c2) J1 hbk
  clear H2 hb2 hbk J0 J1
  generalize w1.heap.size = B at J2 ⊢
  obtain ⟨c0, c1, c3, c4, c5, c6, c7⟩ := J2.sh.cells
  obtain ⟨d0, d1⟩ : _ ∧ _ := ⟨J2.d0, J2.d1⟩
  have blt := J2.sh.lt
  have Hi := Lib.hid (H3.out _ _ _ _ _ _ _ _ J2)
  clear H3
  go_wp2_with fail
  with_reducible refine Hi.out.mono ?_
  rintro e w3 ⟨rfl, hb3⟩
  have J3 := J2.on hb3
  clear Hi hb3 J2 c0 c1 c3 c4 c5 c6 c7 d0 d1 blt
  generalize w2.heap.size = D at J3 ⊢
  have Hi := Lib.hid (H4.out _ _ _ _ _ _ _ _ J3)
  clear H4
  go_wp2_with fail
  with_reducible refine Hi.out.mono ?_
  rintro e w4 ⟨rfl, hb4⟩
  have J4 := J3.on hb4
  clear Hi hb4 J3
  obtain ⟨c0, c1, c3, c4, c5, c6, c7⟩ := J4.sh.cells
  obtain ⟨d0, d1⟩ : _ ∧ _ := ⟨J4.d0, J4.d1⟩
  have Hi := Lib.hid (H5.out _ _ _ _ _ _ _ _ J4)
  clear H5
  go_wp2_with fail
  with_reducible refine Hi.out.mono ?_
  rintro e w5 ⟨At, ct, ⟨rfl, hct, hat5⟩, hb5⟩
  have J5 := J4.on hb5
  clear Hi hb5 J4 c0 c1 c3 c4 c5 c6 c7 d0 d1
  obtain ⟨c0, c1, c3, c4, c5, c6, c7⟩ := J5.sh.cells
  obtain ⟨d0, d1⟩ : _ ∧ _ := ⟨J5.d0, J5.d1⟩
  have Hi := Lib.hid (H6.out _ _ _ _ _ _ _ _ J5)
  clear H6
  go_wp2_with fail
  with_reducible refine Hi.out.mono ?_
  rintro e w6 ⟨A6, n6, k6, bb6, ⟨rfl, _, hown6⟩, hb6⟩
  have J6 := J5.on hb6
  have hat6 := hat5.on hb6
  clear hat5
  clear Hi hb6 J5 c0 c1 c3 c4 c5 c6 c7 d0 d1
  obtain ⟨c0, c1, c3, c4, c5, c6, c7⟩ := J6.sh.cells
  obtain ⟨d0, d1⟩ : _ ∧ _ := ⟨J6.d0, J6.d1⟩
  have Hi := Lib.hid (H7.out _ _ _ _ _ _ _ _ J6)
  clear H7
  go_wp2_with fail
  with_reducible refine Hi.out.mono ?_
  rintro e w7 ⟨p1, p2, g7, ⟨rfl, hlik⟩, hb7⟩
  have J7 := (J6.on hb7).on ((Below.refl _ w7).alloc (Nat.le_refl _) (.cells #[.int .i64 p1, .int .i64 p2] 24))
  have hnew := (Below.refl _ w7).alloc (Nat.le_refl _) (.cells #[.int .i64 p1, .int .i64 p2] 24)
  have hat7 := (hat6.on hb7).on hnew
  have hown7 := (hown6.on hb7).on hnew
  have X7 := (Bx2.new (Below.refl _ w7) (.int .i64 p1) (.int .i64 p2) 24)
  clear hat6 hown6 hnew
  clear Hi hb7 J6 c0 c1 c3 c4 c5 c6 c7 d0 d1
  obtain ⟨c0, c1, c3, c4, c5, c6, c7⟩ := J7.sh.cells
  obtain ⟨d0, d1⟩ : _ ∧ _ := ⟨J7.d0, J7.d1⟩
  have Hi := Lib.hid (H8.out _ _ _ _ _ _ _ _ J7)
  clear H8
  go_wp2_with fail
  with_reducible refine Hi.out.mono ?_
  rintro e w8 ⟨rfl, hb8⟩
  have J8 := J7.on hb8
  have hat8 := hat7.on hb8
  have hown8 := hown7.on hb8
  have X8 := X7.on hb8
  clear hat7 hown7 X7
  clear Hi hb8 J7 c0 c1 c3 c4 c5 c6 c7 d0 d1
  obtain ⟨c0, c1, c3, c4, c5, c6, c7⟩ := J8.sh.cells
  obtain ⟨d0, d1⟩ : _ ∧ _ := ⟨J8.d0, J8.d1⟩
  have Hi := Lib.hid (H9.out _ _ _ _ _ _ _ _ J8 _ ct hat8)
  clear H9
  go_wp2_with fail
  with_reducible refine Hi.out.mono ?_
  rintro e w9 ⟨A9, k9, rfl, hp9, hb9⟩
  have J9 := J8.on hb9
  have hat9 := hat8.on hb9
  have hown9 := hown8.on hb9
  have X9 := X8.on hb9
  clear Hi hb9 J8 hat8 hown8 X8 c0 c1 c3 c4 c5 c6 c7 d0 d1
  obtain ⟨c0, c1, c3, c4, c5, c6, c7⟩ := J9.sh.cells
  have Hi := Lib.hid (H10.out _ _ _ _ _ _ _ _ J9)
  clear H10
  go_wp2_with fail
  with_reducible refine Hi.out.mono ?_
  rintro e w10 ⟨rfl, hb10⟩
  have J10 := J9.on hb10
  have hat10 := hat9.on hb10
  have hown10 := hown9.on hb10
  have X10 := X9.on hb10
  have hp10 := hp9.on hb10
  clear hat9 hown9 X9
  clear Hi hb10 J9 hp9 c0 c1 c3 c4 c5 c6 c7
  obtain ⟨c0, c1, c3, c4, c5, c6, c7⟩ := J10.sh.cells
  have Hi := Lib.hid (H11.out _ _ _ _ _ _ _ _ J10)
  clear H11
  go_wp2_with fail
  with_reducible refine Hi.out.mono ?_
  rintro e w11 ⟨A11, k11, rfl, hq11, hb11⟩
  have J11 := J10.on hb11
  have hat11 := hat10.on hb11
  have hown11 := hown10.on hb11
  have X11 := X10.on hb11
  have hp11 := hp10.on hb11
  clear hat10 hown10 X10
  clear Hi hb11 J10 hp10 c0 c1 c3 c4 c5 c6 c7
  have Hi := Lib.hid (H12.out A11 A9 k11 k9 _ hq11 hp11)
  clear H12
  go_wp2_with fail
  with_reducible refine Hi.out.mono ?_
  rintro e w12 ⟨rfl, hb12⟩
  have J12 := J11.on hb12
  have hat12 := hat11.on hb12
  have hown12 := hown11.on hb12
  have X12 := X11.on hb12
  clear hat11 hown11 X11
  clear Hi hb12 J11 hp11 hq11
  have hn100 := J12.sh.sh.short.1
  obtain ⟨d0, d1⟩ : _ ∧ _ := ⟨J12.d0, J12.d1⟩
  go_upto_region 17 with fail
  go_cut [148] from 142 to 148 (fun c W => c = .bool (!bb6 || decide (n6 ≠ 1)) ∧ w12 = W)
  case first =>
    clear J12 H13 hat12 X12 hlik hown12
    cases bb6 with
    | false =>
      go_wp2_with fail
      go_meet
      exact ⟨rfl, rfl⟩
    | true =>
      by_cases h1 : n6 = 1
      · subst h1
        go_wp2_with fail
        go_meet
        exact ⟨rfl, rfl⟩
      · have hz : ((n6 : Int) == 1) = false := by simp; omega
        go_wp2_with fail
        go_meet
        exact ⟨by simp [h1]; omega, rfl⟩
  case rest =>
    obtain ⟨rfl, rfl⟩ := hcut
    have x0 := X12.c0
    have x1 := X12.c1
    have HV := Lib.hid (Below.refl w12.heap.size w12)
    go_upto_if 148 with fail
    go_cut [] from 148 to 169 (fun W => Below w12.heap.size w12 W)
    case first =>
      rcases hown12 with ⟨k, hr, rfl, rfl, b, off, rfl, hblt, hcell⟩ | ⟨hno, hbb⟩
      · rcases hlik with ⟨k', hr', rfl, rfl, rfl⟩ | ⟨hno, _⟩
        · obtain rfl : k' = k := by rw [hr] at hr'; cases hr'; rfl
          clear hr hr'
          have Hi : Hid (∀ W, Below w12.heap.size w12 W → Calls Tryz.prog 21 #[.slice A2 s.n2 c2, .slice At t.length ct, .int .i64 k', .int .i64 ((s.n : Int) + 1)] W fun e w' => e = .returned (.agg #[.int .i64 ((Pt.lik (bt ls) t k').1 : Nat), .int .i64 ((Pt.lik (bt ls) t k').2 : Nat)]) ∧ Below w12.heap.size w12 w') := Lib.hid fun W hW => (H13.out _ _ _ _ _ _ _ _ (J12.on hW) _ ct k' (hat12.on hW) hct).mono fun e w' hh => ⟨hh.1, hW.trans (hh.2.mono hW.size)⟩
          have HS : Hid (∀ W, Below w12.heap.size w12 W → W.cell? ⟨D, 1, none⟩ = some (.slice A2 s.n2 c2) ∧ W.cell? ⟨w7.heap.size, 0, none⟩ = some (.int .i64 ((Pt.lik (bt ls) t k').1 : Nat)) ∧ W.cell? ⟨w7.heap.size, 1, none⟩ = some (.int .i64 ((Pt.lik (bt ls) t k').2 : Nat)) ∧ W.cell? ⟨b, off, none⟩ = some (.int .i64 k')) := Lib.hid fun W hW => ⟨(J12.on hW).d1, (X12.on hW).c0, (X12.on hW).c1, (hW.cell (p := ⟨b, off, none⟩) hblt).trans hcell⟩
          clear H13 J12 hat12 X12 hblt
          generalize Pt.lik (bt ls) t k' = pp at *
          go_wp2_with fail
          refine wp_region_mix 12 [(true, 0), (true, 1), (true, 2), (true, 3), (true, 4), (true, 5), (true, 6), (true, 7), (true, 8), (true, 9), (true, 10), (false, 11)] (fun W => W.cell? ⟨D, 1, none⟩ = some (.slice A2 s.n2 c2) ∧ W.cell? ⟨w7.heap.size, 0, none⟩ = some (.int .i64 (pp.1 : Nat)) ∧ W.cell? ⟨w7.heap.size, 1, none⟩ = some (.int .i64 (pp.2 : Nat)) ∧ W.cell? ⟨b, off, none⟩ = some (.int .i64 k')) (by kernel_rfl) (by kernel_rfl) (HS.out _ HV.out.drew) ?_
          refine wpMix_on (v := ?_) _ at0 rfl ?_ ?_ ?_
          rotate_left 1
          · rintro W ⟨y0, y1, y2, y3⟩
            go_simp
            rfl
          · exact fun _ _ _ h => h
          simp only [Act.put, List.setIfInBounds_toArray, List.set_cons_zero, List.set_cons_succ]
          refine wpMix_on (v := ?_) _ at1 rfl ?_ ?_ ?_
          rotate_left 1
          · rintro W ⟨y0, y1, y2, y3⟩
            go_simp
            rfl
          · exact fun _ _ _ h => h
          simp only [Act.put, List.setIfInBounds_toArray, List.set_cons_zero, List.set_cons_succ]
          refine wpMix_on (v := ?_) _ at2 rfl ?_ ?_ ?_
          rotate_left 1
          · rintro W ⟨y0, y1, y2, y3⟩
            go_simp
            rfl
          · exact fun _ _ _ h => h
          simp only [Act.put, List.setIfInBounds_toArray, List.set_cons_zero, List.set_cons_succ]
          refine wpMix_on (v := ?_) _ at3 rfl ?_ ?_ ?_
          rotate_left 1
          · rintro W ⟨y0, y1, y2, y3⟩
            go_simp
            rfl
          · exact fun _ _ _ h => h
          simp only [Act.put, List.setIfInBounds_toArray, List.set_cons_zero, List.set_cons_succ]
          refine wpMix_on (v := ?_) _ at4 rfl ?_ ?_ ?_
          rotate_left 1
          · rintro W ⟨y0, y1, y2, y3⟩
            go_simp
            rfl
          · exact fun _ _ _ h => h
          simp only [Act.put, List.setIfInBounds_toArray, List.set_cons_zero, List.set_cons_succ]
          refine wpMix_on (v := ?_) _ at5 rfl ?_ ?_ ?_
          rotate_left 1
          · rintro W ⟨y0, y1, y2, y3⟩
            go_simp
            rfl
          · exact fun _ _ _ h => h
          simp only [Act.put, List.setIfInBounds_toArray, List.set_cons_zero, List.set_cons_succ]
          refine wpMix_on (v := ?_) _ at6 rfl ?_ ?_ ?_
          rotate_left 1
          · rintro W ⟨y0, y1, y2, y3⟩
            go_simp
            rfl
          · exact fun _ _ _ h => h
          simp only [Act.put, List.setIfInBounds_toArray, List.set_cons_zero, List.set_cons_succ]
          refine wpMix_on (v := ?_) _ at7 rfl ?_ ?_ ?_
          rotate_left 1
          · rintro W ⟨y0, y1, y2, y3⟩
            go_simp
            rfl
          · exact fun _ _ _ h => h
          simp only [Act.put, List.setIfInBounds_toArray, List.set_cons_zero, List.set_cons_succ]
          refine wpMix_on (v := ?_) _ at8 rfl ?_ ?_ ?_
          rotate_left 1
          · rintro W ⟨y0, y1, y2, y3⟩
            go_simp
            rfl
          · exact fun _ _ _ h => h
          simp only [Act.put, List.setIfInBounds_toArray, List.set_cons_zero, List.set_cons_succ]
          refine wpMix_on (v := ?_) _ at9 rfl ?_ ?_ ?_
          rotate_left 1
          · rintro W ⟨y0, y1, y2, y3⟩
            go_simp
            rfl
          · exact fun _ _ _ h => h
          simp only [Act.put, List.setIfInBounds_toArray, List.set_cons_zero, List.set_cons_succ]
          refine wpMix_on (v := ?_) _ at10 rfl ?_ ?_ ?_
          rotate_left 1
          · rintro W ⟨y0, y1, y2, y3⟩
            go_simp
            rfl
          · exact fun _ _ _ h => h
          simp only [Act.put, List.setIfInBounds_toArray, List.set_cons_zero, List.set_cons_succ]
          refine wpMix_call _ at11 rfl fun K' hK' => ?_
          go_simp
          go_at_call 21
          with_reducible refine (Hi.out _ HV.out.drew).mono ?_
          rintro e w20 ⟨rfl, hb20⟩
          refine hK'.out _ _ (HS.out _ hb20) ?_
          clear hK' HS Hi x0 x1 hcell
          refine wpMix_nil ?_
          simp only [List.drop_succ_cons, List.drop_zero]
          go_wp2_with fail
          go_meet
          exact hb20
        · exact (own_ne2 hr hno).elim
      · rcases hlik with ⟨k', hr', _⟩ | ⟨_, rfl, rfl, rfl⟩
        · exact (own_ne2 hr' hno).elim
        · have hnb : (!bb6 || decide (n6 ≠ 1)) = true := by
            rcases hbb with rfl | ⟨rfl, h⟩
            · rfl
            · simp [h]
          rw [hnb]
          clear J12 H13 hat12 X12 hbb hno hnb
          go_wp2_with fail
          go_meet
          exact HV.out
    case rest =>
      have J13 := J12.on hcut
      have hat13 := hat12.on hcut
      clear J12 hat12 X12 x0 x1 hown12 hlik d0 d1 HV hcut
      obtain ⟨d0, d1⟩ : _ ∧ _ := ⟨J13.d0, J13.d1⟩
      have Hi := Lib.hid (H13.out _ _ _ _ _ _ _ _ J13 _ ct 1 hat13 hct)
      go_wp2_with fail
      with_reducible refine Hi.out.mono ?_
      rintro e V ⟨rfl, hbV⟩
      have J14 := J13.on hbV
      have hat14 := hat13.on hbV
      clear Hi J13 hat13 hbV d0 d1
      have X0 := Bx2.new (Below.refl _ V) (.int .i64 ((Pt.lik (bt ls) t 1).1 : Nat)) (.int .i64 ((Pt.lik (bt ls) t 1).2 : Nat)) 24
      rw [show Pt.lik (bt ls) t 1 = lkN ls t (bst ls t 1) by rw [bst_one]; rfl] at X0 ⊢
      have HC : Hid (∀ W, Below V.heap.size V W → TL w ls s B D A A2 c c2 W) := Lib.hid fun W hW => J14.on hW
      have HL : Hid (∀ (i : Nat) W, Below V.heap.size V W → Calls Tryz.prog 21 #[.slice A2 s.n2 c2, .slice At t.length ct, .int .i64 ((i : Int) + 2), .int .i64 ((s.n : Int) + 1)] W fun e w' => e = .returned (.agg #[.int .i64 ((lkN ls t (i + 2)).1 : Nat), .int .i64 ((lkN ls t (i + 2)).2 : Nat)]) ∧ Below W.heap.size W w') := Lib.hid fun i W hW => by
        have := H13.out _ _ _ _ _ _ _ _ (J14.on hW) _ ct ((i : Int) + 2) (hat14.on hW) hct
        rw [show Pt.lik (bt ls) t ((i : Int) + 2) = lkN ls t (i + 2) by unfold lkN; rw [show (((i + 2 : Nat)) : Int) = (i : Int) + 2 by omega]] at this
        exact this
      have HW : Hid (∀ (i : Nat) W, Below V.heap.size V W → i < s.n → ∃ b o, A = some ⟨b, o, none⟩ ∧ W.cell? ⟨b, o + i, none⟩ = some (sv (wordS ls (i + 2)))) := Lib.hid fun i W hW hi => by
        have h1 := J14.bk.wlen
        obtain ⟨b, o, e, hb, hc⟩ := J14.bk.words (by omega)
        refine ⟨b, o, e, (hW.cell (p := ⟨b, o + i, none⟩) hb).trans ((hc i (by omega)).trans ?_)⟩
        unfold wordS
        rw [if_neg (by omega)]
        rfl
      have hmost : En.most (bt ls) = s.n + 1 := by rw [bt_most, ← J14.bk.wlen]
      have Hst : Hid (∀ i, i < s.n → bst ls t (i + 2) = if (lkN ls t (bst ls t (i + 1))).1 * (lkN ls t (i + 2)).2 < (lkN ls t (i + 2)).1 * (lkN ls t (bst ls t (i + 1))).2 then i + 2 else bst ls t (i + 1)) := Lib.hid fun i hi => bst_step ls t i (by omega)
      have Hsm : Hid (∀ i, i < s.n → ((lkN ls t (i + 2)).1 ≤ 2147483648 ∧ (lkN ls t (i + 2)).2 ≤ 2147483648) ∧ (lkN ls t (bst ls t (i + 1))).1 ≤ 2147483648 ∧ (lkN ls t (bst ls t (i + 1))).2 ≤ 2147483648) := Lib.hid fun i hi => by
        have h1 := bst_pos ls t (i + 1) (by omega)
        exact ⟨lkN_small ls t hform hfew (i + 2) (by omega) (by omega), lkN_small ls t hform hfew (bst ls t (i + 1)) h1.1 (by omega)⟩
      have HEnd : Hid (wordS ls (bst ls t (s.n + 1)) = gsW ls t) := Lib.hid (bst_all ls t s.n J14.bk.wlen)
      have HOne : Hid (wordS ls (bst ls t 1) = [10]) := Lib.hid (by rw [bst_one]; rfl)
      have hold := J14.sh.old
      obtain ⟨d0, d1⟩ : _ ∧ _ := ⟨J14.d0, J14.d1⟩
      have dlt := J14.lt
      clear J14 hat14 H13 hform hfew hmost
      generalize lkN ls t = K at *
      generalize bst ls t = bs at *
      generalize wordS ls = wd at *
      generalize gsW ls t = gw at *
      go_wp2_with fail
      go_loopw [21, 178] (fun s21 s178 W => ∃ i : Nat, i ≤ s.n ∧ s178 = .int .i64 i ∧ s21 = sv (wd (bs (i + 1))) ∧ Bx2 V V.heap.size (.int .i64 ((K (bs (i + 1))).1 : Nat)) (.int .i64 ((K (bs (i + 1))).2 : Nat)) W) (fun _ u _ => s.n - (intOf u).toNat)
      case atStart => exact ⟨0, Nat.zero_le _, rfl, by rw [HOne.out], X0⟩
      case round =>
        obtain ⟨i, hi, rfl, rfl, X⟩ := hrel
        clear X0 HOne d0 d1
        generalize wr = U at *
        by_cases hlt : i < s.n
        · have hlz : (i : Int) < (s.n : Int) := by omega
          obtain ⟨b, off, rfl, e0⟩ := HW.out i U X.old hlt
          have Hi := Lib.hid (HL.out i U X.old)
          have JU := HC.out U X.old
          obtain ⟨d0, d1⟩ : _ ∧ _ := ⟨JU.d0, JU.d1⟩
          have hw2 : IntKind.i64.wrap ((i : Int) + 2) = (i : Int) + 2 := w64 _ (by omega) (by omega)
          have hst := Hst.out i hlt
          obtain ⟨hz, hy⟩ := Hsm.out i hlt
          have hcmp := lkN_cmp (K (bs (i + 1))) (K (i + 2)) hy hz
          clear Hst Hsm HC HL HW HEnd JU hz hy
          have HSt := Lib.hid hst
          clear hst
          obtain ⟨z1, hz1⟩ : ∃ z : Int, z = (((K (i + 2)).1 : Nat) : Int) := ⟨_, rfl⟩
          obtain ⟨z2, hz2⟩ : ∃ z : Int, z = (((K (i + 2)).2 : Nat) : Int) := ⟨_, rfl⟩
          obtain ⟨y1, hy1⟩ : ∃ z : Int, z = (((K (bs (i + 1))).1 : Nat) : Int) := ⟨_, rfl⟩
          obtain ⟨y2, hy2⟩ : ∃ z : Int, z = (((K (bs (i + 1))).2 : Nat) : Int) := ⟨_, rfl⟩
          rw [← hz1, ← hz2] at Hi
          rw [← hz1, ← hz2, ← hy1, ← hy2] at hcmp
          have Hz := Lib.hid (And.intro hz1 hz2)
          have Hy := Lib.hid (And.intro hy1 hy2)
          rw [← hy1, ← hy2] at X
          clear hz1 hz2 hy1 hy2
          go_wp2_with fail
          with_reducible refine Hi.out.mono ?_
          rintro e U2 ⟨rfl, hb2⟩
          have X1 := X.on hb2
          have x0 := X1.c0
          have x1 := X1.c1
          have f0 := X1.f0
          have f1 := X1.f1
          have xlt := X1.lt
          have X2 := X1.on ((Below.refl _ U2).alloc (Nat.le_refl _) (.cells #[.int .i64 z1, .int .i64 z2] 24))
          clear Hi X hb2 e0 d0 d1
          obtain ⟨u1, hu1⟩ : ∃ u : Int, u = IntKind.i64.wrap (y1 * z2) := ⟨_, rfl⟩
          obtain ⟨u2, hu2⟩ : ∃ u : Int, u = IntKind.i64.wrap (z1 * y2) := ⟨_, rfl⟩
          rw [← hu1, ← hu2] at hcmp
          have v1 := hu1.symm
          have v2 := hu2.symm
          clear hu1 hu2
          by_cases hm : (K (bs (i + 1))).1 * (K (i + 2)).2 < (K (i + 2)).1 * (K (bs (i + 1))).2
          · rw [decide_eq_true hm] at hcmp
            have HB := Lib.hid (HSt.out.trans (if_pos hm))
            have X3 := (X1.set (.int .i64 z1) (.int .i64 z2)).on ((Below.refl _ _).alloc (Nat.le_refl _) (.cells #[.int .i64 z1, .int .i64 z2] 24))
            clear hm HSt Hy X1 X2
            go_wp2
            go_region
            all_goals
              go_wp2
              go_roundw
              case rel => exact ⟨i + 1, by omega, by go_num, by rw [HB.out], by rw [HB.out, ← Hz.out.1, ← Hz.out.2]; exact X3.drew⟩
              case measure => simp [intOf]; omega
          · rw [decide_eq_false hm] at hcmp
            have HB := Lib.hid (HSt.out.trans (if_neg hm))
            clear hm HSt Hz
            go_wp2
            go_roundw
            case rel => exact ⟨i + 1, by omega, by go_num, by rw [HB.out], by rw [HB.out, ← Hy.out.1, ← Hy.out.2]; exact X2⟩
            case measure => simp [intOf]; omega
        · obtain rfl : i = s.n := by omega
          rw [HEnd.out]
          have hold2 := (HC.out _ X.old).sh.old
          clear X Hst Hsm HC HL HW HEnd hlt
          go_wp2
          go_ret
          exact ⟨by first | rfl | simp, hold2⟩

end Go.Proofs.YtoejenejleocdabGreatDoor
