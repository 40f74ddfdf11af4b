/- The walk of the law TopSums. -/
import Derived.Test.YtoejenejleocdabGreatDoorUe
import Derived.Test.YtoejenejleocdabGreatDoorGm
namespace Go.Proofs.YtoejenejleocdabGreatDoor
open Go.RowKit Tx
attribute [local irreducible] Bt.pop Bt.popF

/-- a sum in a block of its own; words in a row behind it -/
structure SWI (w0 : World) (Bs : Nat) (x y : Value) (g o : Nat) (ws : List Wd) (W : World) : Prop where
  box : Bx2 w0 Bs x y W
  row : ∀ i, i < ws.length → W.cell? ⟨g, o + i, none⟩ = some (sv (ws.getD i []))
  glt : g < W.heap.size
  ne : Bs ≠ g
theorem SWI.on {w0 : World} {Bs : Nat} {x y : Value} {g o : Nat} {ws : List Wd} {W W' : World} (h : SWI w0 Bs x y g o ws W) (hb : Below W.heap.size W W') : SWI w0 Bs x y g o ws W' :=
  ⟨h.box.on hb, fun i hi => (hb.cell (p := ⟨g, o + i, none⟩) h.glt).trans (h.row i hi), Nat.lt_of_lt_of_le h.glt hb.size, h.ne⟩
theorem SWI.set {w0 : World} {Bs : Nat} {x y : Value} {g o : Nat} {ws : List Wd} {W : World} (h : SWI w0 Bs x y g o ws W) (x' y' : Value) : SWI w0 Bs x' y' g o ws ((W.setCell ⟨Bs, 0, none⟩ x').setCell ⟨Bs, 1, none⟩ y') :=
  ⟨h.box.set x' y', fun i hi => by
    rw [World.cell?_setCell_far _ ⟨Bs, 1, none⟩ ⟨g, o + i, none⟩ _ h.ne, World.cell?_setCell_far _ ⟨Bs, 0, none⟩ ⟨g, o + i, none⟩ _ h.ne]
    exact h.row i hi, by simpa using h.glt, h.ne⟩

/-- a book's words are short -/
theorem wordsL_short (ls : List (List Wd)) (hF : Formed ls) (i : Nat) : ((wordsL ls).getD i []).length ≤ 8 := by
  by_cases hi : i < (wordsL ls).length
  · have hm := getD_mem (wordsL ls) [] i hi
    unfold wordsL at hm ⊢
    rcases List.mem_cons.1 hm with h | h
    · rw [h]; simp
    · have h2 := (List.all_eq_true.1 (bw_form hF)) _ h
      unfold isWord at h2
      rw [Bool.and_eq_true, decide_eq_true_eq] at h2
      exact h2.1.2
  · rw [List.getD_eq_getElem?_getD, List.getElem?_eq_none (by omega)]; simp
/-- how likely each word is -/
theorem likely_word (ls : List (List Wd)) (s : Sf) (q : Wd) (t : List Int) (i : Nat) (w : World) (h : SH w ls s) (hg : GV w) (hq : q.length ≤ 1000000000) (hn : sgn (Tx.bw ls) q = some t) (hi : i < En.most (bt ls)) :
    Calls Tryz.prog 29 #[s.v, sv q, sv ((wordsL ls).getD i [])] w fun e w' => e = .returned (.tuple #[.agg #[.int .i64 ((Pt.nxt (bt ls) (Pt.last2 t) i).1 : Nat), .int .i64 ((Pt.nxt (bt ls) (Pt.last2 t) i).2 : Nat)], .int .i64 0]) ∧ Below w.heap.size w w' := by
  have hs := wordsL_short ls h.form i
  have := likelyS_yes ls s q ((wordsL ls).getD i []) t ((i + 1 : Nat) : Int) w h hg hq (by omega) hn (by
    rw [wordsL_at ls i (by rw [wordsL_length]; exact hi)]
    exact sgn_wordS ls h.form (i + 1) (by omega) (by omega))
  rw [Pt.lik_nxt (bt ls) t i hi] at this
  exact this

set_option maxRecDepth 100000 in
set_option maxHeartbeats 2000000 in
theorem topSums_err (l q : Wd) (w : World) (hg : GV w) (he : errB l ≠ 0) :
    Calls Tryz.prog 5 #[sv l, sv q] w fun e w' => e = .returned (.bool true) ∧ Below w.heap.size w w' := by
  have H1 := Lib.hid (open_err l w hg he)
  have H3 : Hid (∀ W, Below w.heap.size w W → Calls Tryz.prog 25 #[] W fun e w' => e = .returned (.bool true) ∧ Below w.heap.size w w') := Lib.hid fun W hW => (alive_any W (hg.on hW)).mono fun e w' hh => ⟨hh.1, hW.trans (hh.2.mono hW.size)⟩
  generalize errB l = x at *
  have hne : (x != 0) = true := by simpa using he
  clear he hg
  go_enter Tryz.func5, Tryz.ntmps5
  go_wp2_with fail
  with_reducible refine H1.out.mono ?_
  rintro e w1 ⟨rfl, hb1⟩
  have hb2 := hb1.alloc hb1.size obj0
  clear H1
  go_wp2_with fail
  with_reducible refine (H3.out _ hb2).mono ?_
  rintro e w3 ⟨rfl, hb4⟩
  clear H3
  go_wp2
  go_ret
  exact ⟨rfl, hb4⟩

set_option maxRecDepth 100000 in
set_option maxHeartbeats 4000000 in
theorem topSums_ok (l q : Wd) (w : World) (hg : GV w) (hq : q.length ≤ 1000000000) (he : errB l = 0) :
    Calls Tryz.prog 5 #[sv l, sv q] w fun e w' => e = .returned (.bool true) ∧ Below w.heap.size w w' := by
  have H1 := Lib.hid (open_ok l w hg he)
  unfold OpenOK at H1
  generalize linesOf l = ls at *
  have HS : Hid (∀ B s W, SHB w B ls s W → Calls Tryz.prog 26 #[.agg #[.slice s.A s.n s.c, .slice s.A2 s.n2 s.c2], sv q] W (SgPost W (sgn (Tx.bw ls) q))) := Lib.hid fun B s W hW => hW.signs (hg.on hW.old) q hq
  have H4 : Hid (∀ B s W, SHB w B ls s W → Calls Tryz.prog 25 #[] W fun e w' => e = .returned (.bool true) ∧ SHB w B ls s w') := Lib.hid fun B s W hW => (alive_any W (hg.on hW.old)).mono fun e w' hh => ⟨hh.1, hW.on hh.2⟩
  have HWd : Hid (∀ B s W, SHB w B ls s W → Calls Tryz.prog 28 #[.agg #[.slice s.A s.n s.c, .slice s.A2 s.n2 s.c2]] W fun e w' => ∃ g o cx, e = .returned (.slice (some ⟨g, o, none⟩) (s.n + 1) cx) ∧ W.heap.size ≤ g ∧ g < w'.heap.size ∧ (∀ i, i < (wordsL ls).length → w'.cell? ⟨g, o + i, none⟩ = some (sv ((wordsL ls).getD i []))) ∧ Below W.heap.size W w') := Lib.hid fun B s W hW => words_any ls s.A s.n s.c s.A2 s.n2 s.c2 W hW.sh.book (by have := hW.sh.short; omega)
  have HLk : Hid (∀ t, sgn (Tx.bw ls) q = some t → ∀ B s i W, SHB w B ls s W → i < En.most (bt ls) → Calls Tryz.prog 29 #[s.v, sv q, sv ((wordsL ls).getD i [])] W fun e w' => e = .returned (.tuple #[.agg #[.int .i64 ((Pt.nxt (bt ls) (Pt.last2 t) i).1 : Nat), .int .i64 ((Pt.nxt (bt ls) (Pt.last2 t) i).2 : Nat)], .int .i64 0]) ∧ Below W.heap.size W w') := Lib.hid fun t ht B s i W hW hi => likely_word ls s q t i W hW.sh (hg.on hW.old) hq ht hi
  have hsg := bt_sg ls
  have hm0 : 0 < En.most (bt ls) := by rw [bt_most]; omega
  have F0 := Lib.hid (Pt.tog_zero hsg hm0)
  have Fs := Lib.hid (Pt.tog_succ hsg hm0)
  have Fe := Lib.hid (Pt.tog_end hsg hm0)
  have Ft := Lib.hid (Pt.tog_ok hsg hm0)
  have Fn := Lib.hid (Pt.nxt_ok hsg hm0)
  have HWl := Lib.hid (wordsL_length ls)
  have HBm := Lib.hid (bt_most ls)
  clear hg hq he hsg hm0
  generalize sgn (Tx.bw ls) q = o at *
  go_enter Tryz.func5, Tryz.ntmps5
  go_wp2_with fail
  with_reducible refine H1.out.mono ?_
  rintro e w1 ⟨s, rfl, hsh, hb1⟩
  have J := SHB.start hsh hb1
  clear H1 hsh hb1
  have H4i := Lib.hid (H4.out _ _ _ J)
  clear H4
  go_wp2_with fail
  with_reducible refine H4i.out.mono ?_
  rintro e w2 ⟨rfl, J2⟩
  clear H4i J
  generalize w1.heap.size = B at J2 ⊢
  have HSi := Lib.hid (HS.out _ _ _ J2)
  clear HS
  obtain ⟨c0, c1, c2, c3, c4, c5, c6⟩ := J2.cells
  go_wp2_with fail
  with_reducible refine HSi.out.mono ?_
  clear HSi
  cases o with
  | none =>
    rintro e w3 ⟨rfl, hb3⟩
    have hold := (J2.on hb3).old
    clear J2 HWd HLk F0 Fs Fe Ft Fn
    go_wp2
    go_ret
    exact ⟨rfl, hold⟩
  | some t =>
    rintro e w3 ⟨A, c, rfl, hc, hr, hb3⟩
    have J3 := J2.on hb3
    clear J2 hb3 hr c0 c1 c2 c3 c4 c5 c6
    have X0 := Bx2.new (Below.refl _ w3) (.int .i64 0) (.int .i64 1) 24
    have J4 := J3.on ((Below.refl _ w3).alloc (Nat.le_refl _) (.cells #[.int .i64 0, .int .i64 1] 24))
    have HWi := Lib.hid (HWd.out _ _ _ J4)
    have hlt3 := J3.lt
    have Hnl := Lib.hid J3.sh.book.wlen
    have hsh := J3.sh.short
    obtain ⟨c0, c1, c2, c3, c4, c5, c6⟩ := J3.cells
    clear HWd
    go_wp2_with fail
    with_reducible refine HWi.out.mono ?_
    rintro e w5 ⟨g, o, cx, rfl, hge, hgl, hrow, hb5⟩
    have S0 : SWI w3 w3.heap.size (.int .i64 0) (.int .i64 1) g o (wordsL ls) w5 := ⟨X0.on hb5, hrow, hgl, by simp at hge; omega⟩
    clear HWi X0 J4 hge hgl hrow hb5 c0 c1 c2 c3 c4 c5 c6
    have hmost : En.most (bt ls) = s.n + 1 := by rw [HBm.out, Hnl.out]
    have HLi : Hid (∀ i W, Below w3.heap.size w3 W → i < s.n + 1 → Calls Tryz.prog 29 #[s.v, sv q, sv ((wordsL ls).getD i [])] W fun e w' => e = .returned (.tuple #[.agg #[.int .i64 ((Pt.nxt (bt ls) (Pt.last2 t) i).1 : Nat), .int .i64 ((Pt.nxt (bt ls) (Pt.last2 t) i).2 : Nat)], .int .i64 0]) ∧ Below W.heap.size W w') := Lib.hid fun i W hW hi => HLk.out t rfl _ s i W (J3.on hW) (by omega)
    have HC : Hid (∀ W, Below w3.heap.size w3 W → SHB w B ls s W) := Lib.hid fun W hW => J3.on hW
    have F0 := Lib.hid (F0.out (Pt.last2 t))
    have Fs := Lib.hid (Fs.out (Pt.last2 t))
    have Fe := Lib.hid (Fe.out (Pt.last2 t))
    have Ft := Lib.hid (Ft.out (Pt.last2 t))
    have Fn := Lib.hid (Fn.out (Pt.last2 t))
    rw [hmost] at Fe Ft Fn HWl
    have hn100 : s.n ≤ 100 := hsh.1
    clear HLk HBm hmost Hnl hsh J3
    generalize Pt.nxt (bt ls) (Pt.last2 t) = q' at *
    generalize Pt.tog (bt ls) (Pt.last2 t) = tg at *
    generalize hm : s.n + 1 = m at *
    have Hmz : Hid ((s.n : Int) + 1 = (m : Int)) := Lib.hid (by omega)
    go_wp2
    go_loopw [40] (fun u W => ∃ i : Nat, i ≤ m ∧ u = .int .i64 i ∧ SWI w3 w3.heap.size (.int .i64 ((tg i).1 : Nat)) (.int .i64 ((tg i).2 : Nat)) g o (wordsL ls) W) (fun u _ => m - (intOf u).toNat)
    case atStart => exact ⟨0, Nat.zero_le _, rfl, by rw [F0.out]; exact S0⟩
    case round =>
      obtain ⟨i, hi, rfl, X⟩ := hrel
      clear S0 F0
      generalize wr = V at *
      by_cases hlt : i < m
      · have hlz : (i : Int) < (m : Int) := by omega
        have d0 := X.row i (by rw [HWl.out]; exact hlt)
        have HLj := Lib.hid (HLi.out i V X.box.old hlt)
        have J5 := HC.out V X.box.old
        obtain ⟨c0, c1, c2, c3, c4, c5, c6⟩ := J5.cells
        obtain ⟨b1, b2, b3⟩ := Fn.out i hlt
        obtain ⟨b4, b5⟩ := Ft.out i hi
        have hFs := Lib.hid (Fs.out i)
        clear Fn Ft Fs Fe HLi J5
        generalize (wordsL ls).getD i [] = y at *
        generalize hq' : q' i = qi at *
        clear hq'
        generalize ht : tg i = ti at *
        generalize ht1 : tg (i + 1) = ti1 at *
        have HT1 := Lib.hid ht1
        clear ht ht1
        go_wp2_with fail
        with_reducible refine HLj.out.mono ?_
        rintro e V2 ⟨rfl, hb2⟩
        have X2 := X.on hb2
        clear HLj X hb2 c0 c1 c2 c3 c4 c5 c6 d0
        have hbV := (Below.refl _ V2).alloc (Nat.le_refl _) (.cells #[.int .i64 (qi.1 : Nat), .int .i64 (qi.2 : Nat)] 24)
        have X3 := X2.on hbV
        have x0 := X2.box.c0
        have x1 := X2.box.c1
        have xlt := X2.box.lt
        have u1 : ¬ (((qi.1 : Nat) : Int) < 1) := by omega
        have u3 : ¬ (((qi.2 : Nat) : Int) < ((qi.1 : Nat) : Int)) := by omega
        have hold3 := (HC.out _ X3.box.old).old
        by_cases hbig : 1073741824 < ti.2
        · have z1 : (1073741824 : Int) < ((ti.2 : Nat) : Int) := by omega
          clear X2 X3 hFs HT1 HC HWl
          go_wp2
          go_ret
          exact ⟨rfl, hold3⟩
        · have z1 : ¬ ((1073741824 : Int) < ((ti.2 : Nat) : Int)) := by omega
          by_cases hbig2 : 1073741824 < qi.2
          · have z2 : (1073741824 : Int) < ((qi.2 : Nat) : Int) := by omega
            clear X2 X3 hFs HT1 HC HWl
            go_wp2
            go_ret
            exact ⟨rfl, hold3⟩
          · have z2 : ¬ ((1073741824 : Int) < ((qi.2 : Nat) : Int)) := by omega
            have HAd : Hid (∀ W, Calls Tryz.prog 14 #[.agg #[.int .i64 (ti.1 : Nat), .int .i64 (ti.2 : Nat)], .agg #[.int .i64 (qi.1 : Nat), .int .i64 (qi.2 : Nat)]] W fun e w' => e = .returned (.agg #[.int .i64 (ti1.1 : Nat), .int .i64 (ti1.2 : Nat)]) ∧ Below W.heap.size W w') := Lib.hid fun W => by
              obtain ⟨k1, k2⟩ := Pt.add_ok ti qi b5 b3 (by omega) (by omega)
              have := add_any ti.1 ti.2 qi.1 qi.2 W b4 b2 k1 k2
              rw [show ((ti.1, ti.2) : Nat × Nat) = ti from rfl, show ((qi.1, qi.2) : Nat × Nat) = qi from rfl, hFs.out] at this
              exact this
            clear X2 hFs hbV HC HWl hold3
            go_wp2_with fail
            with_reducible refine (HAd.out _).mono ?_
            rintro e V4 ⟨rfl, hb4⟩
            have X4 := X3.on hb4
            clear HAd X3 hb4 x0 x1
            have x0 := X4.box.c0
            have x1 := X4.box.c1
            have f0 := X4.box.f0
            have f1 := X4.box.f1
            have X5 := X4.set (.int .i64 (ti1.1 : Nat)) (.int .i64 (ti1.2 : Nat))
            clear X4
            go_wp2
            clear x0 x1 f0 f1
            go_roundw
            case rel => exact ⟨i + 1, by omega, by go_num, by rw [HT1.out]; exact X5⟩
            case measure => simp [intOf]; omega
      · obtain rfl : i = m := by omega
        have x0 := X.box.c0
        have x1 := X.box.c1
        rw [Fe.out] at x0 x1
        have hold := (HC.out _ X.box.old).old
        clear Fn Ft Fs Fe X HLi HC HWl
        go_wp2
        go_ret
        exact ⟨by first | rfl | simp, hold⟩

theorem topSums_any (s q : ByteArray) (w : World) (hg : GV w) (_ : s.data.toList.length ≤ 1048576) (hq : q.data.toList.length ≤ 1048576) :
    Calls Tryz.prog 5 #[.string s, .string q] w fun e w' => e = .returned (.bool true) ∧ Below w.heap.size w w' := by
  have e1 : Value.string s = sv s.data.toList := by unfold sv; rw [toArray_data]
  have e2 : Value.string q = sv q.data.toList := by unfold sv; rw [toArray_data]
  rw [e1, e2]
  by_cases he : errB s.data.toList = 0
  · exact topSums_ok _ _ w hg (by omega) he
  · exact topSums_err _ _ w hg he

end Go.Proofs.YtoejenejleocdabGreatDoor
