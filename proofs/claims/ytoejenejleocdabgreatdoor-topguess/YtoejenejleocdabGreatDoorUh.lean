/- The walk of the law TopGuess. -/
import Derived.Test.YtoejenejleocdabGreatDoorUg
namespace Go.Proofs.YtoejenejleocdabGreatDoor
open Go.RowKit Tx
attribute [local irreducible] Bt.pop Bt.popF

theorem best_at (ls : List (List Wd)) (t : List Int) : bestS (bt ls) t - 1 < En.most (bt ls) ∧ gsW ls t = (wordsL ls).getD (bestS (bt ls) t - 1) [] := by
  obtain ⟨h1, h2, _⟩ := best_sign ls t
  refine ⟨by omega, ?_⟩
  rw [wordsL_at ls _ (by rw [wordsL_length]; omega), show bestS (bt ls) t - 1 + 1 = bestS (bt ls) t from by omega]
  rfl
theorem nxt_best (ls : List (List Wd)) (t : List Int) (i : Nat) (hi : i < En.most (bt ls)) :
    ¬ ((Pt.nxt (bt ls) (Pt.last2 t) (bestS (bt ls) t - 1)).1 * (Pt.nxt (bt ls) (Pt.last2 t) i).2 < (Pt.nxt (bt ls) (Pt.last2 t) i).1 * (Pt.nxt (bt ls) (Pt.last2 t) (bestS (bt ls) t - 1)).2) := by
  obtain ⟨h1, h2, _⟩ := best_sign ls t
  have hm : 0 < En.most (bt ls) := by omega
  have := lik_best ls t (i + 1) (by omega) (by omega) (Pt.lv (bt ls) 0 (Pt.last2 t)).2 (Pt.lv_pos (bt_sg ls) 0 hm _).2
  unfold Pt.nxt
  rw [show bestS (bt ls) t - 1 + 1 = bestS (bt ls) t from by omega]
  exact this

set_option maxRecDepth 100000 in
set_option maxHeartbeats 2000000 in
theorem topGuess_err (l q : Wd) (w : World) (hg : GV w) (hq : q.length ≤ 1000000000) (he : errB l ≠ 0) :
    Calls Tryz.prog 6 #[sv l, sv q] w fun e w' => e = .returned (.bool true) ∧ Below w.heap.size w w' := by
  have H1 := Lib.hid (open_err l w hg he)
  have H2 : Hid (∀ W, Below w.heap.size w W → Calls Tryz.prog 30 #[sh0, sv q] W fun e w' => e = .returned (.tuple #[.string ⟨#[]⟩, .int .i64 3]) ∧ Below w.heap.size w w') := Lib.hid fun W hW => (guessS_zero q W (hg.on hW) hq).mono fun e w' hh => ⟨hh.1, hW.trans (hh.2.mono hW.size)⟩
  have H3 : Hid (∀ W, Below w.heap.size w W → Calls Tryz.prog 25 #[] W fun e w' => e = .returned (.bool true) ∧ Below w.heap.size w w') := Lib.hid fun W hW => (alive_any W (hg.on hW)).mono fun e w' hh => ⟨hh.1, hW.trans (hh.2.mono hW.size)⟩
  generalize errB l = x at *
  have hne : (x != 0) = true := by simpa using he
  clear he hg hq
  go_enter Tryz.func6, Tryz.ntmps6
  go_wp2_with fail
  with_reducible refine H1.out.mono ?_
  rintro e w1 ⟨rfl, hb1⟩
  have hb2 := hb1.alloc hb1.size obj0
  clear H1
  go_wp2_with fail
  with_reducible refine (H2.out _ hb2).mono ?_
  rintro e w2 ⟨rfl, hb3⟩
  clear H2
  go_wp2_with fail
  with_reducible refine (H3.out _ hb3).mono ?_
  rintro e w3 ⟨rfl, hb4⟩
  clear H3
  go_wp2
  go_ret
  exact ⟨by first | rfl | simp, hb4⟩

set_option maxRecDepth 100000 in
set_option maxHeartbeats 2000000 in
theorem topGuess_none (l q : Wd) (w : World) (hg : GV w) (hq : q.length ≤ 1000000000) (he : errB l = 0) (hn : sgn (Tx.bw (linesOf l)) q = none) :
    Calls Tryz.prog 6 #[sv l, sv q] w fun e w' => e = .returned (.bool true) ∧ Below w.heap.size w w' := by
  have H1 := Lib.hid (open_ok l w hg he)
  unfold OpenOK at H1
  generalize linesOf l = ls at *
  have H2 : Hid (∀ B s W, SHB w B ls s W → Calls Tryz.prog 30 #[s.v, sv q] W fun e w' => e = .returned (.tuple #[.string ⟨#[]⟩, .int .i64 3]) ∧ SHB w B ls s w') := Lib.hid fun B s W hW => (guessS_no ls s q W hW.sh (hg.on hW.old) hq hn).mono fun e w' hh => ⟨hh.1, hW.on hh.2⟩
  have H4 : Hid (∀ B s W, SHB w B ls s W → Calls Tryz.prog 25 #[] W fun e w' => e = .returned (.bool true) ∧ SHB w B ls s w') := Lib.hid fun B s W hW => (alive_any W (hg.on hW.old)).mono fun e w' hh => ⟨hh.1, hW.on hh.2⟩
  clear hg hq he hn
  go_enter Tryz.func6, Tryz.ntmps6
  go_wp2_with fail
  with_reducible refine H1.out.mono ?_
  rintro e w1 ⟨s, rfl, hsh, hb1⟩
  have J := SHB.start hsh hb1
  clear H1 hsh hb1
  have H2i := Lib.hid (H2.out _ _ _ J)
  clear H2
  go_wp2_with fail
  with_reducible refine H2i.out.mono ?_
  rintro e w2 ⟨rfl, J2⟩
  clear H2i J
  have H4i := Lib.hid (H4.out _ _ _ J2)
  clear H4
  go_wp2_with fail
  with_reducible refine H4i.out.mono ?_
  rintro e w3 ⟨rfl, J3⟩
  have hold := J3.old
  clear H4i J2 J3
  go_wp2
  go_ret
  exact ⟨by first | rfl | simp, hold⟩

set_option maxRecDepth 100000 in
set_option maxHeartbeats 4000000 in
theorem topGuess_some (l q : Wd) (t : List Int) (w : World) (hg : GV w) (hq : q.length ≤ 1000000000) (he : errB l = 0) (hn : sgn (Tx.bw (linesOf l)) q = some t) :
    Calls Tryz.prog 6 #[sv l, sv q] w fun e w' => e = .returned (.bool true) ∧ Below w.heap.size w w' := by
  have H1 := Lib.hid (open_ok l w hg he)
  unfold OpenOK at H1
  generalize linesOf l = ls at *
  obtain ⟨hk, hgs⟩ := best_at ls t
  have H2 : Hid (∀ B s W, SHB w B ls s W → Calls Tryz.prog 30 #[s.v, sv q] W fun e w' => e = .returned (.tuple #[sv (gsW ls t), .int .i64 0]) ∧ SHB w B ls s w') := Lib.hid fun B s W hW => (guessS_yes ls s q t W hW.sh (hg.on hW.old) hq hn).mono fun e w' hh => ⟨hh.1, hW.on hh.2⟩
  have HLk : Hid (∀ B s i W, SHB w B ls s W → i < En.most (bt ls) → Calls Tryz.prog 29 #[s.v, sv q, sv ((wordsL ls).getD i [])] W fun e w' => e = .returned (.tuple #[.agg #[.int .i64 ((Pt.nxt (bt ls) (Pt.last2 t) i).1 : Nat), .int .i64 ((Pt.nxt (bt ls) (Pt.last2 t) i).2 : Nat)], .int .i64 0]) ∧ Below W.heap.size W w') := Lib.hid fun B s i W hW hi => likely_word ls s q t i W hW.sh (hg.on hW.old) hq hn hi
  have HLb : Hid (∀ B s W, SHB w B ls s W → Calls Tryz.prog 29 #[s.v, sv q, sv (gsW ls t)] W fun e w' => e = .returned (.tuple #[.agg #[.int .i64 ((Pt.nxt (bt ls) (Pt.last2 t) (bestS (bt ls) t - 1)).1 : Nat), .int .i64 ((Pt.nxt (bt ls) (Pt.last2 t) (bestS (bt ls) t - 1)).2 : Nat)], .int .i64 0]) ∧ Below W.heap.size W w') := Lib.hid fun B s W hW => by
    rw [hgs]
    exact HLk.out B s _ W hW hk
  have HWd : Hid (∀ B s W, SHB w B ls s W → Calls Tryz.prog 28 #[.agg #[.slice s.A s.n s.c, .slice s.A2 s.n2 s.c2]] W fun e w' => ∃ g o cx, e = .returned (.slice (some ⟨g, o, none⟩) (s.n + 1) cx) ∧ W.heap.size ≤ g ∧ g < w'.heap.size ∧ (∀ i, i < (wordsL ls).length → w'.cell? ⟨g, o + i, none⟩ = some (sv ((wordsL ls).getD i []))) ∧ Below W.heap.size W w') := Lib.hid fun B s W hW => words_any ls s.A s.n s.c s.A2 s.n2 s.c2 W hW.sh.book (by have := hW.sh.short; omega)
  have H4 : Hid (∀ B s W, SHB w B ls s W → Calls Tryz.prog 25 #[] W fun e w' => e = .returned (.bool true) ∧ SHB w B ls s w') := Lib.hid fun B s W hW => (alive_any W (hg.on hW.old)).mono fun e w' hh => ⟨hh.1, hW.on hh.2⟩
  have hsg := bt_sg ls
  have hm0 : 0 < En.most (bt ls) := by rw [bt_most]; omega
  have Fn := Lib.hid (Pt.nxt_ok hsg hm0 (Pt.last2 t))
  have Fb := Lib.hid (nxt_best ls t)
  have HWl := Lib.hid (wordsL_length ls)
  have HBm := Lib.hid (bt_most ls)
  have hpb := Fn.out _ hk
  clear hg hq he hsg hm0 hgs hn hk
  generalize Pt.nxt (bt ls) (Pt.last2 t) (bestS (bt ls) t - 1) = pb at *
  generalize Pt.nxt (bt ls) (Pt.last2 t) = q' at *
  generalize gsW ls t = gw at *
  go_enter Tryz.func6, Tryz.ntmps6
  go_wp2_with fail
  with_reducible refine H1.out.mono ?_
  rintro e w1 ⟨s, rfl, hsh, hb1⟩
  have J := SHB.start hsh hb1
  clear H1 hsh hb1
  have H2i := Lib.hid (H2.out _ _ _ J)
  clear H2
  go_wp2_with fail
  with_reducible refine H2i.out.mono ?_
  rintro e w2 ⟨rfl, J2⟩
  clear H2i J
  generalize w1.heap.size = B at J2 ⊢
  have HLbi := Lib.hid (HLb.out _ _ _ J2)
  clear HLb
  obtain ⟨c0, c1, c2, c3, c4, c5, c6⟩ := J2.cells
  go_wp2_with fail
  with_reducible refine HLbi.out.mono ?_
  rintro e w3 ⟨rfl, hb3⟩
  have J3 := J2.on hb3
  clear HLbi J2 hb3 c0 c1 c2 c3 c4 c5 c6
  have X0 := Bx2.new (Below.refl _ w3) (.int .i64 (pb.1 : Nat)) (.int .i64 (pb.2 : Nat)) 24
  have J4 := J3.on ((Below.refl _ w3).alloc (Nat.le_refl _) (.cells #[.int .i64 (pb.1 : Nat), .int .i64 (pb.2 : Nat)] 24))
  have HWi := Lib.hid (HWd.out _ _ _ J4)
  have hlt3 := J3.lt
  have Hnl := Lib.hid J3.sh.book.wlen
  have hsh := J3.sh.short
  obtain ⟨c0, c1, c2, c3, c4, c5, c6⟩ := J3.cells
  clear HWd
  go_wp2_with fail
  with_reducible refine HWi.out.mono ?_
  rintro e w5 ⟨g, o, cx, rfl, hge, hgl, hrow, hb5⟩
  have S0 : SWI w3 w3.heap.size (.int .i64 (pb.1 : Nat)) (.int .i64 (pb.2 : Nat)) g o (wordsL ls) w5 := ⟨X0.on hb5, hrow, hgl, by simp at hge; omega⟩
  clear HWi X0 J4 hge hgl hrow hb5 c0 c1 c2 c3 c4 c5 c6
  have hmost : En.most (bt ls) = s.n + 1 := by rw [HBm.out, Hnl.out]
  have HLi : Hid (∀ i W, Below w3.heap.size w3 W → i < s.n + 1 → Calls Tryz.prog 29 #[s.v, sv q, sv ((wordsL ls).getD i [])] W fun e w' => e = .returned (.tuple #[.agg #[.int .i64 ((q' i).1 : Nat), .int .i64 ((q' i).2 : Nat)], .int .i64 0]) ∧ Below W.heap.size W w') := Lib.hid fun i W hW hi => HLk.out _ s i W (J3.on hW) (by omega)
  have HC : Hid (∀ W, Below w3.heap.size w3 W → SHB w B ls s W) := Lib.hid fun W hW => J3.on hW
  rw [hmost] at Fn Fb HWl
  have hn100 : s.n ≤ 100 := hsh.1
  clear HLk HBm hmost Hnl hsh J3
  generalize hm : s.n + 1 = m at *
  go_wp2
  go_loopw [50] (fun u W => ∃ i : Nat, i ≤ m ∧ u = .int .i64 i ∧ SWI w3 w3.heap.size (.int .i64 (pb.1 : Nat)) (.int .i64 (pb.2 : Nat)) g o (wordsL ls) W) (fun u _ => m - (intOf u).toNat)
  case atStart => exact ⟨0, Nat.zero_le _, rfl, S0⟩
  case round =>
    obtain ⟨i, hi, rfl, X⟩ := hrel
    clear S0
    generalize wr = V at *
    by_cases hlt : i < m
    · have hlz : (i : Int) < (m : Int) := by omega
      have d0 := X.row i (by rw [HWl.out]; exact hlt)
      have HLj := Lib.hid (HLi.out i V X.box.old hlt)
      have J5 := HC.out V X.box.old
      obtain ⟨c0, c1, c2, c3, c4, c5, c6⟩ := J5.cells
      obtain ⟨b1, b2, b3⟩ := Fn.out i hlt
      have hnb := Fb.out i hlt
      clear Fn Fb HLi J5 H4 HC HWl
      generalize (wordsL ls).getD i [] = y at *
      generalize q' i = qi at *
      obtain ⟨z1, hz1⟩ : ∃ z : Int, z = ((qi.1 : Nat) : Int) := ⟨_, rfl⟩
      obtain ⟨z2, hz2⟩ : ∃ z : Int, z = ((qi.2 : Nat) : Int) := ⟨_, rfl⟩
      obtain ⟨y1, hy1⟩ : ∃ z : Int, z = ((pb.1 : Nat) : Int) := ⟨_, rfl⟩
      obtain ⟨y2, hy2⟩ : ∃ z : Int, z = ((pb.2 : Nat) : Int) := ⟨_, rfl⟩
      rw [← hz1, ← hz2] at HLj
      have x0 := X.box.c0
      have x1 := X.box.c1
      rw [← hy1] at x0
      rw [← hy2] at x1
      have hc2 : y2 < 1073741824 → z2 < 1073741824 → 0 ≤ z1 * y2 ∧ z1 * y2 ≤ 1152921504606846976 ∧ 0 ≤ y1 * z2 ∧ y1 * z2 ≤ 1152921504606846976 ∧ ¬ (y1 * z2 < z1 * y2) := fun h1 h2 => by
        have m1 : qi.1 * pb.2 ≤ 1073741824 * 1073741824 := Nat.mul_le_mul (by omega) (by omega)
        have m2 : pb.1 * qi.2 ≤ 1073741824 * 1073741824 := Nat.mul_le_mul (by omega) (by omega)
        have e1 : z1 * y2 = ((qi.1 * pb.2 : Nat) : Int) := by rw [hz1, hy2]; simp
        have e2 : y1 * z2 = ((pb.1 * qi.2 : Nat) : Int) := by rw [hy1, hz2]; simp
        rw [e1, e2]
        generalize qi.1 * pb.2 = u1 at *
        generalize pb.1 * qi.2 = u2 at *
        omega
      clear hz1 hz2 hy1 hy2 hnb b1 b2 b3 hpb
      have xlt := X.box.lt
      go_wp2_with fail
      with_reducible refine HLj.out.mono ?_
      rintro e V2 ⟨rfl, hb2⟩
      have X2 := X.on hb2
      have k0 : V2.cell? ⟨w3.heap.size, 0, none⟩ = some (.int .i64 y1) := (hb2.cell (p := ⟨w3.heap.size, 0, none⟩) xlt).trans x0
      have k1 : V2.cell? ⟨w3.heap.size, 1, none⟩ = some (.int .i64 y2) := (hb2.cell (p := ⟨w3.heap.size, 1, none⟩) xlt).trans x1
      have X3 := X2.on ((Below.refl _ V2).alloc (Nat.le_refl _) (.cells #[.int .i64 z1, .int .i64 z2] 24))
      have xlt2 := X2.box.lt
      clear HLj X hb2 c0 c1 c2 c3 c4 c5 c6 d0 X2 x0 x1 xlt
      by_cases hbig : y2 < 1073741824
      · by_cases hbig2 : z2 < 1073741824
        · obtain ⟨n1, n2, n3, n4, n5⟩ := hc2 hbig hbig2
          obtain ⟨u1, hu1⟩ : ∃ u : Int, u = z1 * y2 := ⟨_, rfl⟩
          obtain ⟨u2, hu2⟩ : ∃ u : Int, u = y1 * z2 := ⟨_, rfl⟩
          have v1 : IntKind.i64.wrap (z1 * y2) = u1 := by rw [hu1]; exact w64 _ (by omega) (by omega)
          have v2 : IntKind.i64.wrap (y1 * z2) = u2 := by rw [hu2]; exact w64 _ (by omega) (by omega)
          rw [← hu1, ← hu2] at n5
          have n6 : decide (u2 < u1) = false := decide_eq_false (by omega)
          clear n1 n2 n3 n4 n5 hc2 hu1 hu2
          go_wp2
          go_roundw
          case rel => exact ⟨i + 1, by omega, by go_num, X3⟩
          case measure => simp [intOf]; omega
        · clear hc2
          go_wp2
          go_roundw
          case rel => exact ⟨i + 1, by omega, by go_num, X3⟩
          case measure => simp [intOf]; omega
      · clear hc2
        go_wp2
        go_roundw
        case rel => exact ⟨i + 1, by omega, by go_num, X3⟩
        case measure => simp [intOf]; omega
    · obtain rfl : i = m := by omega
      have J5 := HC.out _ X.box.old
      have H4i := Lib.hid (H4.out _ _ _ J5)
      clear Fn Fb X HLi HC HWl H4 J5
      go_wp2_with fail
      with_reducible refine H4i.out.mono ?_
      rintro e V4 ⟨rfl, J6⟩
      have hold := J6.old
      clear H4i J6
      go_wp2
      go_ret
      exact ⟨rfl, hold⟩

theorem topGuess_any (s q : ByteArray) (w : World) (hg : GV w) (_ : s.data.toList.length ≤ 1048576) (hq : q.data.toList.length ≤ 1048576) :
    Calls Tryz.prog 6 #[.string s, .string q] w fun e w' => e = .returned (.bool true) ∧ Below w.heap.size w w' := by
  have e1 : Value.string s = sv s.data.toList := by unfold sv; rw [toArray_data]
  have e2 : Value.string q = sv q.data.toList := by unfold sv; rw [toArray_data]
  rw [e1, e2]
  by_cases he : errB s.data.toList = 0
  · cases hn : sgn (Tx.bw (linesOf s.data.toList)) q.data.toList with
    | none => exact topGuess_none _ _ w hg (by omega) he hn
    | some t => exact topGuess_some _ _ t w hg (by omega) he hn
  · exact topGuess_err _ _ w hg (by omega) he

end Go.Proofs.YtoejenejleocdabGreatDoor
