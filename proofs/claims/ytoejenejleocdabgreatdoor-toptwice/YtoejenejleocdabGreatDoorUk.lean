/- The walk of the law TopTwice. -/
import Derived.Test.YtoejenejleocdabGreatDoorUj
import Derived.Test.YtoejenejleocdabGreatDoorJw
namespace Go.Proofs.YtoejenejleocdabGreatDoor
open Go.RowKit Tx
attribute [local irreducible] Bt.pop Bt.popF

theorem cntW_le (ls : List (List Wd)) (q : Wd) : cntW ls q ≤ (bt ls).length := by
  unfold cntW
  cases sgn (Tx.bw ls) q with
  | none => exact Nat.zero_le _
  | some t => exact En.plc_le_n _ _
/-- the lines of a text that is ended, and of it twice -/
theorem endB_lines (l : Wd) : linesOf (endB l ++ endB l) = linesOf (endB l) ++ linesOf (endB l) := by
  rw [endB_trim]
  obtain ⟨h1, h2⟩ := lines_twice (trimB l)
  rw [h1, h2]
theorem errB_twice (l : Wd) (h : errB (endB l ++ endB l) = 0) : errB (endB l) = 0 := by
  obtain ⟨h1, h2, h3⟩ := errB_ok h
  rw [endB_lines] at h2 h3
  have hall := h2.all
  simp only [List.flatten_append, List.length_append, List.all_append, Bool.and_eq_true] at h1 h3 hall
  unfold errB
  rw [if_neg (by omega), if_neg (by rw [hall.1]; simp), if_neg (by omega)]
theorem endB_yes {l : Wd} (h : Lib.hasSuffix l [10] = true) : endB l = l := by unfold endB; rw [if_pos h]
theorem endB_no {l : Wd} (h : Lib.hasSuffix l [10] = false) : endB l = l ++ [10] := by unfold endB; rw [if_neg (by rw [h]; simp)]
theorem suffix_any (l : Wd) (w : World) (hl : l.length ≤ 1048576) : Calls Tryz.prog 32 #[sv l, .string ⟨#[10]⟩] w fun e w' => e = .returned (.bool (Lib.hasSuffix l [10])) ∧ w = w' := by
  refine (Tryz.strings_HasSuffix ⟨l.toArray⟩ ⟨#[10]⟩ w (by simpa [ByteArray.size] using (by omega : l.length ≤ 9223372036854775807))).mono ?_
  rintro e w' ⟨rfl, rfl⟩
  exact ⟨rfl, rfl⟩

set_option maxRecDepth 100000 in
set_option maxHeartbeats 2000000 in
theorem topTwice_AT (l q : Wd) (w : World) (hg : GV w) (hl : l.length ≤ 1048576) (hq : q.length ≤ 1048576) (hsuf : Lib.hasSuffix l [10] = true) (he : errB (endB l) ≠ 0) :
    Calls Tryz.prog 9 #[sv l, sv q] w fun e w' => e = .returned (.bool true) ∧ Below w.heap.size w w' := by
  have he2 : errB (endB l ++ endB l) ≠ 0 := fun h => he (errB_twice l h)
  have hX : sv (endB l) = .string (⟨l.toArray⟩ : ByteArray) := by rw [endB_yes hsuf]
  have hXX : sv (endB l ++ endB l) = .string ((⟨l.toArray⟩ : ByteArray) ++ (⟨l.toArray⟩ : ByteArray)) := by rw [endB_yes hsuf, sv_app2]
  have HSf : Hid (∀ W, Calls Tryz.prog 32 #[sv l, .string ⟨#[10]⟩] W fun e w' => e = .returned (.bool true) ∧ W = w') := Lib.hid fun W => by
    have := suffix_any l W hl
    rw [hsuf] at this
    exact this
  have H1 := Lib.hid (open_err (endB l) w hg he)
  have H2 : Hid (∀ W, Below w.heap.size w W → Calls Tryz.prog 23 #[sv (endB l ++ endB l)] W fun e w' => e = .returned (.tuple #[sh0, .int .i64 (errB (endB l ++ endB l))]) ∧ Below W.heap.size W w') := Lib.hid fun W hW => open_err (endB l ++ endB l) W (hg.on hW) he2
  have H3 : Hid (∀ W, Below w.heap.size w W → Calls Tryz.prog 26 #[.agg #[.slice none 0 0, .slice none 0 0], sv q] W (SgPost W (sgn [] q))) := Lib.hid fun W hW => signs_any [] q none 0 0 none 0 0 W (hg.on hW) (fun h => absurd h (by simp)) rfl (by omega) (by omega)
  have H4 : Hid (∀ W, Below w.heap.size w W → Calls Tryz.prog 25 #[] W fun e w' => e = .returned (.bool true) ∧ Below w.heap.size w w') := Lib.hid fun W hW => (alive_any W (hg.on hW)).mono fun e w' hh => ⟨hh.1, hW.trans (hh.2.mono hW.size)⟩
  rw [hX] at H1
  rw [hXX] at H2
  clear hX hXX
  generalize errB (endB l ++ endB l) = x2 at *
  generalize errB (endB l) = x at *
  generalize sgn [] q = o at *
  have hne : (x != 0) = true := by simpa using he
  clear he hg he2 hsuf
  go_enter Tryz.func9, Tryz.ntmps9
  go_wp2_with fail
  with_reducible refine (HSf.out _).mono ?_
  rintro e w0 ⟨rfl, rfl⟩
  clear HSf
  go_wp2_with fail
  with_reducible refine H1.out.mono ?_
  rintro e w1 ⟨rfl, hb1⟩
  have hb2 := hb1.alloc hb1.size obj0
  have hz1 := shZ_alloc w1
  have H2i := Lib.hid (H2.out _ hb2)
  clear H1 H2
  go_wp2_with fail
  with_reducible refine H2i.out.mono ?_
  rintro e w2 ⟨rfl, hb3⟩
  have hz2 := hz1.of_block (hb3.block _ hz1.lt)
  have hb4 := hb2.trans (hb3.mono hb2.size)
  have hb5 := hb4.alloc hb4.size obj0
  have k0 : w2.cell? ⟨w1.heap.size, 0, none⟩ = some (.slice none 0 0) := hz2.cell (i := 0) (by omega)
  have k1 : w2.cell? ⟨w1.heap.size, 1, none⟩ = some (.slice none 0 0) := hz2.cell (i := 1) (by omega)
  have hlt2 := hz2.lt
  have H3i := Lib.hid (H3.out _ hb5)
  clear H2i H3 hz1 hz2 hb3 hb4
  go_wp2_with fail
  with_reducible refine H3i.out.mono ?_
  clear H3i
  have hfin : ∀ W, Below (w2.alloc obj0).heap.size (w2.alloc obj0) W → Below w.heap.size w W := fun W h => hb5.trans (h.mono hb5.size)
  have Hfin := Lib.hid hfin
  clear hfin
  cases o with
  | none =>
    rintro e w3 ⟨rfl, hb6⟩
    have hb7 := Hfin.out _ hb6
    clear hb6 Hfin k0 k1
    go_wp2_with fail
    with_reducible refine (H4.out _ hb7).mono ?_
    rintro e w4 ⟨rfl, hb8⟩
    clear H4
    go_wp2
    go_ret
    exact ⟨rfl, hb8⟩
  | some t =>
    rintro e w3 ⟨A, c, rfl, hc, hr, hb6⟩
    have hb7 := Hfin.out _ hb6
    clear hb6 Hfin k0 k1 hr
    go_wp2_with fail
    with_reducible refine (H4.out _ hb7).mono ?_
    rintro e w4 ⟨rfl, hb8⟩
    clear H4
    go_wp2
    go_ret
    exact ⟨rfl, hb8⟩

set_option maxRecDepth 100000 in
set_option maxHeartbeats 2000000 in
theorem topTwice_BT (l q : Wd) (w : World) (hg : GV w) (hl : l.length ≤ 1048576) (hq : q.length ≤ 1048576) (hsuf : Lib.hasSuffix l [10] = true) (he : errB (endB l) = 0) (he2 : errB (endB l ++ endB l) ≠ 0) :
    Calls Tryz.prog 9 #[sv l, sv q] w fun e w' => e = .returned (.bool true) ∧ Below w.heap.size w w' := by
  have hX : sv (endB l) = .string (⟨l.toArray⟩ : ByteArray) := by rw [endB_yes hsuf]
  have hXX : sv (endB l ++ endB l) = .string ((⟨l.toArray⟩ : ByteArray) ++ (⟨l.toArray⟩ : ByteArray)) := by rw [endB_yes hsuf, sv_app2]
  have HSf : Hid (∀ W, Calls Tryz.prog 32 #[sv l, .string ⟨#[10]⟩] W fun e w' => e = .returned (.bool true) ∧ W = w') := Lib.hid fun W => by
    have := suffix_any l W hl
    rw [hsuf] at this
    exact this
  have H1 := Lib.hid (open_ok (endB l) w hg he)
  unfold OpenOK at H1
  generalize linesOf (endB l) = ls at *
  have H2 : Hid (∀ W, Below w.heap.size w W → Calls Tryz.prog 23 #[sv (endB l ++ endB l)] W fun e w' => e = .returned (.tuple #[sh0, .int .i64 (errB (endB l ++ endB l))]) ∧ Below W.heap.size W w') := Lib.hid fun W hW => open_err (endB l ++ endB l) W (hg.on hW) he2
  have H3 : Hid (∀ B s W, SHB w B ls s W → Calls Tryz.prog 26 #[.agg #[.slice s.A s.n s.c, .slice s.A2 s.n2 s.c2], sv q] W (SgPost W (sgn (Tx.bw ls) q))) := Lib.hid fun B s W hW => hW.signs (hg.on hW.old) q (by omega)
  have H4 : Hid (∀ W, Below w.heap.size w W → Calls Tryz.prog 25 #[] W fun e w' => e = .returned (.bool true) ∧ Below w.heap.size w w') := Lib.hid fun W hW => (alive_any W (hg.on hW)).mono fun e w' hh => ⟨hh.1, hW.trans (hh.2.mono hW.size)⟩
  rw [hX] at H1
  rw [hXX] at H2
  clear hX hXX
  generalize errB (endB l ++ endB l) = x2 at *
  generalize sgn (Tx.bw ls) q = o at *
  have hne : (x2 != 0) = true := by simpa using he2
  clear he hg he2 hsuf
  go_enter Tryz.func9, Tryz.ntmps9
  go_wp2_with fail
  with_reducible refine (HSf.out _).mono ?_
  rintro e w0 ⟨rfl, rfl⟩
  clear HSf
  go_wp2_with fail
  with_reducible refine H1.out.mono ?_
  rintro e w1 ⟨s, rfl, hsh, hb1⟩
  have J := SHB.start hsh hb1
  have H2i := Lib.hid (H2.out _ J.old)
  clear H1 H2 hsh hb1
  go_wp2_with fail
  with_reducible refine H2i.out.mono ?_
  rintro e w2 ⟨rfl, hb3⟩
  have J2 := J.on hb3
  have J3 := J2.on ((Below.refl _ w2).alloc (Nat.le_refl _) obj0)
  obtain ⟨c0, c1, c2, c3, c4, c5, c6⟩ := J2.cells
  have hlt2 := J2.lt
  have H3i := Lib.hid (H3.out _ _ _ J3)
  clear H2i H3 hb3 J J2
  go_wp2_with fail
  with_reducible refine H3i.out.mono ?_
  clear H3i
  cases o with
  | none =>
    rintro e w3 ⟨rfl, hb6⟩
    have hb7 := (J3.on hb6).old
    clear hb6 J3 c0 c1 c2 c3 c4 c5 c6
    go_wp2_with fail
    with_reducible refine (H4.out _ hb7).mono ?_
    rintro e w4 ⟨rfl, hb8⟩
    clear H4
    go_wp2
    go_ret
    exact ⟨rfl, hb8⟩
  | some t =>
    rintro e w3 ⟨A, c, rfl, hc, hr, hb6⟩
    have hb7 := (J3.on hb6).old
    clear hb6 hr J3 c0 c1 c2 c3 c4 c5 c6
    go_wp2_with fail
    with_reducible refine (H4.out _ hb7).mono ?_
    rintro e w4 ⟨rfl, hb8⟩
    clear H4
    go_wp2
    go_ret
    exact ⟨rfl, hb8⟩

set_option maxRecDepth 100000 in
set_option maxHeartbeats 4000000 in
theorem topTwice_CT (l q : Wd) (w : World) (hg : GV w) (hl : l.length ≤ 1048576) (hq : q.length ≤ 1048576) (hsuf : Lib.hasSuffix l [10] = true) (he : errB (endB l) = 0) (he2 : errB (endB l ++ endB l) = 0) :
    Calls Tryz.prog 9 #[sv l, sv q] w fun e w' => e = .returned (.bool true) ∧ Below w.heap.size w w' := by
  have hX : sv (endB l) = .string (⟨l.toArray⟩ : ByteArray) := by rw [endB_yes hsuf]
  have hXX : sv (endB l ++ endB l) = .string ((⟨l.toArray⟩ : ByteArray) ++ (⟨l.toArray⟩ : ByteArray)) := by rw [endB_yes hsuf, sv_app2]
  have HSf : Hid (∀ W, Calls Tryz.prog 32 #[sv l, .string ⟨#[10]⟩] W fun e w' => e = .returned (.bool true) ∧ W = w') := Lib.hid fun W => by
    have := suffix_any l W hl
    rw [hsuf] at this
    exact this
  have H1 := Lib.hid (open_ok (endB l) w hg he)
  unfold OpenOK at H1
  have H2 : Hid (∀ B s W, SHB w B (linesOf (endB l)) s W → Calls Tryz.prog 23 #[sv (endB l ++ endB l)] W fun e w' => ∃ s2 : Sf, e = .returned (.tuple #[s2.v, .int .i64 0]) ∧ SH w' (linesOf (endB l) ++ linesOf (endB l)) s2 ∧ SHB w B (linesOf (endB l)) s w') := Lib.hid fun B s W hW => by
    refine (open_ok (endB l ++ endB l) W (hg.on hW.old) he2).mono ?_
    rintro e w' ⟨s2, h1, h2, h3⟩
    rw [endB_lines] at h2
    exact ⟨s2, h1, h2, hW.on h3⟩
  have hls : linesOf (endB l) ≠ [] := (errB_ok he).2.1.ne
  generalize linesOf (endB l) = ls at *
  have H3 : Hid (∀ B1 s1 B2 s2 W, S2 w ls B1 s1 (ls ++ ls) B2 s2 W → Calls Tryz.prog 26 #[.agg #[.slice s1.A s1.n s1.c, .slice s1.A2 s1.n2 s1.c2], sv q] W (SgPost W (sgn (Tx.bw ls) q))) := Lib.hid fun B1 s1 B2 s2 W hW => hW.a.signs (hg.on hW.a.old) q (by omega)
  have K1 : Hid (∀ B1 s1 B2 s2 W, S2 w ls B1 s1 (ls ++ ls) B2 s2 W → Calls Tryz.prog 24 #[s1.v, sv q] W fun e w' => e = .returned (.int .i64 (cntW ls q : Nat)) ∧ S2 w ls B1 s1 (ls ++ ls) B2 s2 w') := Lib.hid fun B1 s1 B2 s2 W hW => (countS_any ls s1 q W hW.a.sh (hg.on hW.a.old) (by omega)).mono fun e w' hh => ⟨hh.1, hW.on hh.2⟩
  have K2 : Hid (∀ B1 s1 B2 s2 W, S2 w ls B1 s1 (ls ++ ls) B2 s2 W → Calls Tryz.prog 24 #[s2.v, sv q] W fun e w' => e = .returned (.int .i64 (cntW (ls ++ ls) q : Nat)) ∧ S2 w ls B1 s1 (ls ++ ls) B2 s2 w') := Lib.hid fun B1 s1 B2 s2 W hW => (countS_any (ls ++ ls) s2 q W hW.b.sh (hg.on hW.b.old) (by omega)).mono fun e w' hh => ⟨hh.1, hW.on hh.2⟩
  have H4 : Hid (∀ B1 s1 B2 s2 W, S2 w ls B1 s1 (ls ++ ls) B2 s2 W → Calls Tryz.prog 25 #[] W fun e w' => e = .returned (.bool true) ∧ S2 w ls B1 s1 (ls ++ ls) B2 s2 w') := Lib.hid fun B1 s1 B2 s2 W hW => (alive_any W (hg.on hW.a.old)).mono fun e w' hh => ⟨hh.1, hW.on hh.2⟩
  have HTw : Hid (∀ t, sgn (Tx.bw ls) q = some t → t ≠ [] → (∀ j, j + 1 < t.length → t.getD j 0 ≠ 1) → cntW (ls ++ ls) q = 2 * cntW ls q) := Lib.hid fun t ht h1 h2 => cnt_twice ls hls q t ht h1 h2
  have hcl := cntW_le ls q
  have hbl : Hid (∀ B s W, SHB w B ls s W → (bt ls).length ≤ 102) := Lib.hid fun B s W hW => hW.sh.short.2.2
  have HLn : Hid (∀ t, sgn (Tx.bw ls) q = some t → t.length ≤ 4000000000) := Lib.hid fun t ht => by have := sgn_length ht; omega
  rw [hX] at H1
  rw [hXX] at H2
  clear hX hXX
  generalize sgn (Tx.bw ls) q = o at *
  generalize cntW ls q = n at *
  generalize cntW (ls ++ ls) q = n2 at *
  generalize (bt ls).length = N at *
  clear he hg he2 hsuf hls
  go_enter Tryz.func9, Tryz.ntmps9
  go_wp2_with fail
  with_reducible refine (HSf.out _).mono ?_
  rintro e w0 ⟨rfl, rfl⟩
  clear HSf
  go_wp2_with fail
  with_reducible refine H1.out.mono ?_
  rintro e w1 ⟨s1, rfl, hsh, hb1⟩
  have J := SHB.start hsh hb1
  have hN := hbl.out _ _ _ J
  have H2i := Lib.hid (H2.out _ _ _ J)
  clear H1 H2 hsh hb1 hbl
  go_wp2_with fail
  with_reducible refine H2i.out.mono ?_
  rintro e w2 ⟨s2, rfl, hsh2, J2⟩
  have P : S2 w ls w1.heap.size s1 (ls ++ ls) w2.heap.size s2 (w2.alloc s2.obj) := ⟨J2.on ((Below.refl _ _).alloc (Nat.le_refl _) _), SHB.start hsh2 J2.old⟩
  have hB1 := J2.lt
  obtain ⟨c0, c1, c2, c3, c4, c5, c6⟩ := J2.cells
  have H3i := Lib.hid (H3.out _ _ _ _ _ P)
  clear H2i H3 J J2 hsh2
  go_wp2_with fail
  with_reducible refine H3i.out.mono ?_
  clear H3i c0 c1 c2 c3 c4 c5 c6
  generalize w2.alloc s2.obj = V at P ⊢
  generalize w1.heap.size = B1 at P ⊢
  generalize w2.heap.size = B2 at P ⊢
  cases o with
  | none =>
    rintro e w3 ⟨rfl, hb6⟩
    have P2 := P.on hb6
    have H4i := Lib.hid (H4.out _ _ _ _ _ P2)
    clear hb6 P P2 H4 K1 K2 HTw
    go_wp2_with fail
    with_reducible refine H4i.out.mono ?_
    rintro e w4 ⟨rfl, P3⟩
    have hold := P3.a.old
    clear H4i P3
    go_wp2
    go_ret
    exact ⟨rfl, hold⟩
  | some t =>
    rintro e w3 ⟨A, c, rfl, hc, hr, hb6⟩
    have P2 := P.on hb6
    have htl := HLn.out t rfl
    have HTt := Lib.hid (HTw.out t rfl)
    have HR : Hid (∀ i, i < t.length → ∃ b o, A = some ⟨b, o, none⟩ ∧ w3.cell? ⟨b, o + i, none⟩ = some (.int .i64 (t.getD i 0))) := Lib.hid fun i hi => by
      obtain ⟨b, o, e, _, hcc⟩ := hr (by omega)
      exact ⟨b, o, e, hcc i hi⟩
    clear hb6 P HTw HLn hr
    go_wp2_with fail
    go_loop [50] (fun u => ∃ k : Nat, k ≤ t.length ∧ u = .int .i64 k ∧ ∀ j, j < k → j + 1 < t.length → t.getD j 0 ≠ 1) (fun u => t.length - (intOf u).toNat)
    case atStart => exact ⟨0, Nat.zero_le _, rfl, fun j hj => absurd hj (by omega)⟩
    case round =>
      obtain ⟨k, hk, rfl, hinv⟩ := hrel
      have Hinv := Lib.hid hinv
      clear hinv
      by_cases hlt : k < t.length
      · have hlz : (k : Int) < (t.length : Int) := by omega
        obtain ⟨b, o, rfl, d0⟩ := HR.out k hlt
        have hw1 : IntKind.i64.wrap ((k : Int) + 1) = (k : Int) + 1 := w64 _ (by omega) (by omega)
        by_cases hx : t.getD k 0 = 1
        · rw [hx] at d0
          by_cases hk1 : k + 1 < t.length
          · have hz1 : (k : Int) + 1 < (t.length : Int) := by omega
            have H4i := Lib.hid (H4.out _ _ _ _ _ P2)
            clear P2 H4 K1 K2 HTt HR Hinv
            go_wp2_with fail
            with_reducible refine H4i.out.mono ?_
            rintro e w4 ⟨rfl, P3⟩
            have hold := P3.a.old
            clear H4i P3
            go_wp2
            go_ret
            exact ⟨rfl, hold⟩
          · have hz1 : ¬ ((k : Int) + 1 < (t.length : Int)) := by omega
            clear P2 H4 K1 K2 HTt HR
            go_wp2
            go_round
            case rel => exact ⟨k + 1, by omega, by go_num, fun j hj hj2 => by
              by_cases e : j = k
              · subst e; exact absurd hj2 (by omega)
              · exact Hinv.out j (by omega) hj2⟩
            case measure => simp [intOf]; omega
        · have hxz : (t.getD k 0 == 1) = false := by simpa using hx
          have Hx := Lib.hid hx
          have HG := Lib.hid (rfl : t.getD k 0 = t.getD k 0)
          clear hx
          generalize hy : t.getD k 0 = y at d0 hxz
          clear hy HG P2 H4 K1 K2 HTt HR
          go_wp2
          go_round
          case rel => exact ⟨k + 1, by omega, by go_num, fun j hj hj2 => by
            by_cases e : j = k
            · subst e; exact Hx.out
            · exact Hinv.out j (by omega) hj2⟩
          case measure => simp [intOf]; omega
      · obtain rfl : k = t.length := by omega
        obtain ⟨c0, c1, c2, c3, c4, c5, c6⟩ := P2.a.cells
        obtain ⟨d0, d1, d2, d3, d4, d5, d6⟩ := P2.b.cells
        have P6 := P2.on (Below.refl w3.heap.size w3).drew
        clear P2 HR
        by_cases h0 : t.length = 0
        · have hz0 : ((t.length : Int) == 0) = true := beq_iff_eq.2 (by omega)
          clear K1 K2 HTt Hinv
          go_wp2_with fail
          refine wp_region_mix 16 [(true, 0), (true, 1), (true, 2), (true, 3), (true, 4), (true, 5), (true, 7), (true, 8), (false, 6), (false, 9), (true, 10), (true, 11), (true, 12), (true, 13), (false, 14), (true, 15)] (fun w' => w'.cell? ⟨B1, 0, none⟩ = some (.slice s1.A s1.n s1.c) ∧ w'.cell? ⟨B1, 1, none⟩ = some (.slice s1.A2 s1.n2 s1.c2) ∧ w'.cell? ⟨B1, 2, none⟩ = some (.slice s1.E s1.N s1.cE) ∧ w'.cell? ⟨B1, 3, none⟩ = some (.int .i64 s1.N) ∧ w'.cell? ⟨B1, 4, none⟩ = some (.int .i64 10) ∧ w'.cell? ⟨B1, 5, none⟩ = some (.slice s1.L 10 s1.cL) ∧ w'.cell? ⟨B1, 6, none⟩ = some (.slice s1.S s1.M s1.cS) ∧ w'.cell? ⟨B2, 0, none⟩ = some (.slice s2.A s2.n s2.c) ∧ w'.cell? ⟨B2, 1, none⟩ = some (.slice s2.A2 s2.n2 s2.c2) ∧ w'.cell? ⟨B2, 2, none⟩ = some (.slice s2.E s2.N s2.cE) ∧ w'.cell? ⟨B2, 3, none⟩ = some (.int .i64 s2.N) ∧ w'.cell? ⟨B2, 4, none⟩ = some (.int .i64 10) ∧ w'.cell? ⟨B2, 5, none⟩ = some (.slice s2.L 10 s2.cL) ∧ w'.cell? ⟨B2, 6, none⟩ = some (.slice s2.S s2.M s2.cS)) (by kernel_rfl) (by kernel_rfl) ⟨c0, c1, c2, c3, c4, c5, c6, d0, d1, d2, d3, d4, d5, d6⟩ ?_
          refine wpMix_on (v := ?_) _ at0 rfl ?_ ?_ ?_
          rotate_left 1
          · rintro W ⟨x0, x1, x2, x3, x4, x5, x6, x7, x8, x9, x10, x11, x12, x13⟩
            go_simp
            rfl
          · exact fun _ _ _ h => h
          simp only [Act.put, List.setIfInBounds_toArray, List.set_cons_zero, List.set_cons_succ]
          refine wpMix_on (v := ?_) _ at1 rfl ?_ ?_ ?_
          rotate_left 1
          · rintro W ⟨x0, x1, x2, x3, x4, x5, x6, x7, x8, x9, x10, x11, x12, x13⟩
            go_simp
            rfl
          · exact fun _ _ _ h => h
          simp only [Act.put, List.setIfInBounds_toArray, List.set_cons_zero, List.set_cons_succ]
          refine wpMix_on (v := ?_) _ at2 rfl ?_ ?_ ?_
          rotate_left 1
          · rintro W ⟨x0, x1, x2, x3, x4, x5, x6, x7, x8, x9, x10, x11, x12, x13⟩
            go_simp
            rfl
          · exact fun _ _ _ h => h
          simp only [Act.put, List.setIfInBounds_toArray, List.set_cons_zero, List.set_cons_succ]
          refine wpMix_on (v := ?_) _ at3 rfl ?_ ?_ ?_
          rotate_left 1
          · rintro W ⟨x0, x1, x2, x3, x4, x5, x6, x7, x8, x9, x10, x11, x12, x13⟩
            go_simp
            rfl
          · exact fun _ _ _ h => h
          simp only [Act.put, List.setIfInBounds_toArray, List.set_cons_zero, List.set_cons_succ]
          refine wpMix_off _ at4 rfl ?_ ?_
          · exact fun _ _ _ h => h
          simp only [Act.put, List.setIfInBounds_toArray, List.set_cons_zero, List.set_cons_succ]
          refine wpMix_off _ at5 rfl ?_ ?_
          · exact fun _ _ _ h => h
          simp only [Act.put, List.setIfInBounds_toArray, List.set_cons_zero, List.set_cons_succ]
          refine wpMix_off _ at7 rfl ?_ ?_
          · exact fun _ _ _ h => h
          simp only [Act.put, List.setIfInBounds_toArray, List.set_cons_zero, List.set_cons_succ]
          refine wpMix_off _ at8 rfl ?_ ?_
          · exact fun _ _ _ h => h
          simp only [Act.put, List.setIfInBounds_toArray, List.set_cons_zero, List.set_cons_succ]
          refine wpMix_skip _ at6 rfl ?_
          simp only [Act.put, List.setIfInBounds_toArray, List.set_cons_zero, List.set_cons_succ]
          refine wpMix_skip _ at9 rfl ?_
          simp only [Act.put, List.setIfInBounds_toArray, List.set_cons_zero, List.set_cons_succ]
          refine wpMix_off _ at10 rfl ?_ ?_
          · exact fun _ _ _ h => h
          simp only [Act.put, List.setIfInBounds_toArray, List.set_cons_zero, List.set_cons_succ]
          refine wpMix_off _ at11 rfl ?_ ?_
          · exact fun _ _ _ h => h
          simp only [Act.put, List.setIfInBounds_toArray, List.set_cons_zero, List.set_cons_succ]
          refine wpMix_on (v := ?_) _ at12 rfl ?_ ?_ ?_
          rotate_left 1
          · rintro W ⟨x0, x1, x2, x3, x4, x5, x6, x7, x8, x9, x10, x11, x12, x13⟩
            go_simp
            rfl
          · exact fun _ _ _ h => h
          simp only [Act.put, List.setIfInBounds_toArray, List.set_cons_zero, List.set_cons_succ]
          refine wpMix_on (v := ?_) _ at13 rfl ?_ ?_ ?_
          rotate_left 1
          · rintro W ⟨x0, x1, x2, x3, x4, x5, x6, x7, x8, x9, x10, x11, x12, x13⟩
            go_simp
            rfl
          · exact fun _ _ _ h => h
          simp only [Act.put, List.setIfInBounds_toArray, List.set_cons_zero, List.set_cons_succ]
          refine wpMix_call _ at14 rfl fun K' hK' => ?_
          go_simp
          go_at_call 25
          refine (H4.out B1 s1 B2 s2 _ P6).mono ?_
          rintro e w9 ⟨rfl, P9⟩
          refine hK'.out _ _ ⟨P9.a.c0, P9.a.c1, P9.a.c2, P9.a.c3, P9.a.c4, P9.a.c5, P9.a.c6, P9.b.c0, P9.b.c1, P9.b.c2, P9.b.c3, P9.b.c4, P9.b.c5, P9.b.c6⟩ ?_
          clear hK' P6 H4
          refine wpMix_on (v := ?_) _ at15 rfl ?_ ?_ ?_
          rotate_left 1
          · rintro W ⟨x0, x1, x2, x3, x4, x5, x6, x7, x8, x9, x10, x11, x12, x13⟩
            go_simp
            rfl
          · exact fun _ _ _ h => h
          simp only [Act.put, List.setIfInBounds_toArray, List.set_cons_zero, List.set_cons_succ]
          refine wpMix_nil ?_
          have hold := P9.a.old
          clear P9
          simp only [List.drop_succ_cons, List.drop_zero]
          go_wp2
          go_ret
          exact ⟨by first | rfl | simp, hold⟩
        · have hz0 : ((t.length : Int) == 0) = false := beq_eq_false_iff_ne.2 (by omega)
          have hn2 : n2 = 2 * n := HTt.out (fun h => h0 (by rw [h]; rfl)) (fun j hj => Hinv.out j (by omega) hj)
          subst hn2
          have hw2 : IntKind.i64.wrap (2 * (n : Int)) = 2 * (n : Int) := w64 _ (by omega) (by omega)
          have hcc : (((2 * n : Nat) : Int) == 2 * (n : Int)) = true := by simp
          clear HTt Hinv
          go_wp2_with fail
          refine wp_region_mix 16 [(true, 0), (true, 1), (true, 2), (true, 3), (true, 4), (true, 5), (true, 7), (true, 8), (false, 6), (false, 9), (true, 10), (true, 11), (true, 12), (true, 13), (false, 14), (true, 15)] (fun w' => w'.cell? ⟨B1, 0, none⟩ = some (.slice s1.A s1.n s1.c) ∧ w'.cell? ⟨B1, 1, none⟩ = some (.slice s1.A2 s1.n2 s1.c2) ∧ w'.cell? ⟨B1, 2, none⟩ = some (.slice s1.E s1.N s1.cE) ∧ w'.cell? ⟨B1, 3, none⟩ = some (.int .i64 s1.N) ∧ w'.cell? ⟨B1, 4, none⟩ = some (.int .i64 10) ∧ w'.cell? ⟨B1, 5, none⟩ = some (.slice s1.L 10 s1.cL) ∧ w'.cell? ⟨B1, 6, none⟩ = some (.slice s1.S s1.M s1.cS) ∧ w'.cell? ⟨B2, 0, none⟩ = some (.slice s2.A s2.n s2.c) ∧ w'.cell? ⟨B2, 1, none⟩ = some (.slice s2.A2 s2.n2 s2.c2) ∧ w'.cell? ⟨B2, 2, none⟩ = some (.slice s2.E s2.N s2.cE) ∧ w'.cell? ⟨B2, 3, none⟩ = some (.int .i64 s2.N) ∧ w'.cell? ⟨B2, 4, none⟩ = some (.int .i64 10) ∧ w'.cell? ⟨B2, 5, none⟩ = some (.slice s2.L 10 s2.cL) ∧ w'.cell? ⟨B2, 6, none⟩ = some (.slice s2.S s2.M s2.cS)) (by kernel_rfl) (by kernel_rfl) ⟨c0, c1, c2, c3, c4, c5, c6, d0, d1, d2, d3, d4, d5, d6⟩ ?_
          refine wpMix_on (v := ?_) _ at0 rfl ?_ ?_ ?_
          rotate_left 1
          · rintro W ⟨x0, x1, x2, x3, x4, x5, x6, x7, x8, x9, x10, x11, x12, x13⟩
            go_simp
            rfl
          · exact fun _ _ _ h => h
          simp only [Act.put, List.setIfInBounds_toArray, List.set_cons_zero, List.set_cons_succ]
          refine wpMix_on (v := ?_) _ at1 rfl ?_ ?_ ?_
          rotate_left 1
          · rintro W ⟨x0, x1, x2, x3, x4, x5, x6, x7, x8, x9, x10, x11, x12, x13⟩
            go_simp
            rfl
          · exact fun _ _ _ h => h
          simp only [Act.put, List.setIfInBounds_toArray, List.set_cons_zero, List.set_cons_succ]
          refine wpMix_on (v := ?_) _ at2 rfl ?_ ?_ ?_
          rotate_left 1
          · rintro W ⟨x0, x1, x2, x3, x4, x5, x6, x7, x8, x9, x10, x11, x12, x13⟩
            go_simp
            rfl
          · exact fun _ _ _ h => h
          simp only [Act.put, List.setIfInBounds_toArray, List.set_cons_zero, List.set_cons_succ]
          refine wpMix_on (v := ?_) _ at3 rfl ?_ ?_ ?_
          rotate_left 1
          · rintro W ⟨x0, x1, x2, x3, x4, x5, x6, x7, x8, x9, x10, x11, x12, x13⟩
            go_simp
            rfl
          · exact fun _ _ _ h => h
          simp only [Act.put, List.setIfInBounds_toArray, List.set_cons_zero, List.set_cons_succ]
          refine wpMix_on (v := ?_) _ at4 rfl ?_ ?_ ?_
          rotate_left 1
          · rintro W ⟨x0, x1, x2, x3, x4, x5, x6, x7, x8, x9, x10, x11, x12, x13⟩
            go_simp
            rfl
          · exact fun _ _ _ h => h
          simp only [Act.put, List.setIfInBounds_toArray, List.set_cons_zero, List.set_cons_succ]
          refine wpMix_on (v := ?_) _ at5 rfl ?_ ?_ ?_
          rotate_left 1
          · rintro W ⟨x0, x1, x2, x3, x4, x5, x6, x7, x8, x9, x10, x11, x12, x13⟩
            go_simp
            rfl
          · exact fun _ _ _ h => h
          simp only [Act.put, List.setIfInBounds_toArray, List.set_cons_zero, List.set_cons_succ]
          refine wpMix_on (v := ?_) _ at7 rfl ?_ ?_ ?_
          rotate_left 1
          · rintro W ⟨x0, x1, x2, x3, x4, x5, x6, x7, x8, x9, x10, x11, x12, x13⟩
            go_simp
            rfl
          · exact fun _ _ _ h => h
          simp only [Act.put, List.setIfInBounds_toArray, List.set_cons_zero, List.set_cons_succ]
          refine wpMix_on (v := ?_) _ at8 rfl ?_ ?_ ?_
          rotate_left 1
          · rintro W ⟨x0, x1, x2, x3, x4, x5, x6, x7, x8, x9, x10, x11, x12, x13⟩
            go_simp
            rfl
          · exact fun _ _ _ h => h
          simp only [Act.put, List.setIfInBounds_toArray, List.set_cons_zero, List.set_cons_succ]
          refine wpMix_call _ at6 rfl fun K' hK' => ?_
          go_simp
          go_at_call 24
          refine (K2.out B1 s1 B2 s2 _ P6).mono ?_
          rintro e w7 ⟨rfl, P7⟩
          refine hK'.out _ _ ⟨P7.a.c0, P7.a.c1, P7.a.c2, P7.a.c3, P7.a.c4, P7.a.c5, P7.a.c6, P7.b.c0, P7.b.c1, P7.b.c2, P7.b.c3, P7.b.c4, P7.b.c5, P7.b.c6⟩ ?_
          clear hK' P6 K2 c0 c1 c2 c3 c4 c5 c6 d0 d1 d2 d3 d4 d5 d6
          refine wpMix_call _ at9 rfl fun K' hK' => ?_
          go_simp
          go_at_call 24
          refine (K1.out B1 s1 B2 s2 _ P7).mono ?_
          rintro e w8 ⟨rfl, P8⟩
          refine hK'.out _ _ ⟨P8.a.c0, P8.a.c1, P8.a.c2, P8.a.c3, P8.a.c4, P8.a.c5, P8.a.c6, P8.b.c0, P8.b.c1, P8.b.c2, P8.b.c3, P8.b.c4, P8.b.c5, P8.b.c6⟩ ?_
          clear hK' P7 K1
          refine wpMix_on (v := ?_) _ at10 rfl ?_ ?_ ?_
          rotate_left 1
          · rintro W ⟨x0, x1, x2, x3, x4, x5, x6, x7, x8, x9, x10, x11, x12, x13⟩
            go_simp
            rfl
          · exact fun _ _ _ h => h
          simp only [Act.put, List.setIfInBounds_toArray, List.set_cons_zero, List.set_cons_succ]
          refine wpMix_on (v := ?_) _ at11 rfl ?_ ?_ ?_
          rotate_left 1
          · rintro W ⟨x0, x1, x2, x3, x4, x5, x6, x7, x8, x9, x10, x11, x12, x13⟩
            go_simp
            rfl
          · exact fun _ _ _ h => h
          simp only [Act.put, List.setIfInBounds_toArray, List.set_cons_zero, List.set_cons_succ]
          refine wpMix_on (v := ?_) _ at12 rfl ?_ ?_ ?_
          rotate_left 1
          · rintro W ⟨x0, x1, x2, x3, x4, x5, x6, x7, x8, x9, x10, x11, x12, x13⟩
            go_simp
            rfl
          · exact fun _ _ _ h => h
          simp only [Act.put, List.setIfInBounds_toArray, List.set_cons_zero, List.set_cons_succ]
          refine wpMix_on (v := ?_) _ at13 rfl ?_ ?_ ?_
          rotate_left 1
          · rintro W ⟨x0, x1, x2, x3, x4, x5, x6, x7, x8, x9, x10, x11, x12, x13⟩
            go_simp
            rfl
          · exact fun _ _ _ h => h
          simp only [Act.put, List.setIfInBounds_toArray, List.set_cons_zero, List.set_cons_succ]
          refine wpMix_call _ at14 rfl fun K' hK' => ?_
          go_simp
          go_at_call 25
          refine (H4.out B1 s1 B2 s2 _ P8).mono ?_
          rintro e w9 ⟨rfl, P9⟩
          refine hK'.out _ _ ⟨P9.a.c0, P9.a.c1, P9.a.c2, P9.a.c3, P9.a.c4, P9.a.c5, P9.a.c6, P9.b.c0, P9.b.c1, P9.b.c2, P9.b.c3, P9.b.c4, P9.b.c5, P9.b.c6⟩ ?_
          clear hK' P8 H4
          refine wpMix_on (v := ?_) _ at15 rfl ?_ ?_ ?_
          rotate_left 1
          · rintro W ⟨x0, x1, x2, x3, x4, x5, x6, x7, x8, x9, x10, x11, x12, x13⟩
            go_simp
            rfl
          · exact fun _ _ _ h => h
          simp only [Act.put, List.setIfInBounds_toArray, List.set_cons_zero, List.set_cons_succ]
          refine wpMix_nil ?_
          have hold := P9.a.old
          clear P9
          simp only [List.drop_succ_cons, List.drop_zero]
          go_wp2
          go_ret
          exact ⟨by first | rfl | simp, hold⟩

set_option maxRecDepth 100000 in
set_option maxHeartbeats 2000000 in
theorem topTwice_AF (l q : Wd) (w : World) (hg : GV w) (hl : l.length ≤ 1048576) (hq : q.length ≤ 1048576) (hsuf : Lib.hasSuffix l [10] = false) (he : errB (endB l) ≠ 0) :
    Calls Tryz.prog 9 #[sv l, sv q] w fun e w' => e = .returned (.bool true) ∧ Below w.heap.size w w' := by
  have he2 : errB (endB l ++ endB l) ≠ 0 := fun h => he (errB_twice l h)
  have hX : sv (endB l) = .string ((⟨l.toArray⟩ : ByteArray) ++ (⟨#[10]⟩ : ByteArray)) := by rw [endB_no hsuf]; exact (sv_app2 l [10]).symm
  have hXX : sv (endB l ++ endB l) = .string (((⟨l.toArray⟩ : ByteArray) ++ (⟨#[10]⟩ : ByteArray)) ++ ((⟨l.toArray⟩ : ByteArray) ++ (⟨#[10]⟩ : ByteArray))) := by
    rw [endB_no hsuf]
    unfold sv
    congr 1
  have HSf : Hid (∀ W, Calls Tryz.prog 32 #[sv l, .string ⟨#[10]⟩] W fun e w' => e = .returned (.bool false) ∧ W = w') := Lib.hid fun W => by
    have := suffix_any l W hl
    rw [hsuf] at this
    exact this
  have H1 := Lib.hid (open_err (endB l) w hg he)
  have H2 : Hid (∀ W, Below w.heap.size w W → Calls Tryz.prog 23 #[sv (endB l ++ endB l)] W fun e w' => e = .returned (.tuple #[sh0, .int .i64 (errB (endB l ++ endB l))]) ∧ Below W.heap.size W w') := Lib.hid fun W hW => open_err (endB l ++ endB l) W (hg.on hW) he2
  have H3 : Hid (∀ W, Below w.heap.size w W → Calls Tryz.prog 26 #[.agg #[.slice none 0 0, .slice none 0 0], sv q] W (SgPost W (sgn [] q))) := Lib.hid fun W hW => signs_any [] q none 0 0 none 0 0 W (hg.on hW) (fun h => absurd h (by simp)) rfl (by omega) (by omega)
  have H4 : Hid (∀ W, Below w.heap.size w W → Calls Tryz.prog 25 #[] W fun e w' => e = .returned (.bool true) ∧ Below w.heap.size w w') := Lib.hid fun W hW => (alive_any W (hg.on hW)).mono fun e w' hh => ⟨hh.1, hW.trans (hh.2.mono hW.size)⟩
  rw [hX] at H1
  rw [hXX] at H2
  clear hX hXX
  generalize errB (endB l ++ endB l) = x2 at *
  generalize errB (endB l) = x at *
  generalize sgn [] q = o at *
  have hne : (x != 0) = true := by simpa using he
  clear he hg he2 hsuf
  go_enter Tryz.func9, Tryz.ntmps9
  go_wp2_with fail
  with_reducible refine (HSf.out _).mono ?_
  rintro e w0 ⟨rfl, rfl⟩
  clear HSf
  go_wp2_with fail
  with_reducible refine H1.out.mono ?_
  rintro e w1 ⟨rfl, hb1⟩
  have hb2 := hb1.alloc hb1.size obj0
  have hz1 := shZ_alloc w1
  have H2i := Lib.hid (H2.out _ hb2)
  clear H1 H2
  go_wp2_with fail
  with_reducible refine H2i.out.mono ?_
  rintro e w2 ⟨rfl, hb3⟩
  have hz2 := hz1.of_block (hb3.block _ hz1.lt)
  have hb4 := hb2.trans (hb3.mono hb2.size)
  have hb5 := hb4.alloc hb4.size obj0
  have k0 : w2.cell? ⟨w1.heap.size, 0, none⟩ = some (.slice none 0 0) := hz2.cell (i := 0) (by omega)
  have k1 : w2.cell? ⟨w1.heap.size, 1, none⟩ = some (.slice none 0 0) := hz2.cell (i := 1) (by omega)
  have hlt2 := hz2.lt
  have H3i := Lib.hid (H3.out _ hb5)
  clear H2i H3 hz1 hz2 hb3 hb4
  go_wp2_with fail
  with_reducible refine H3i.out.mono ?_
  clear H3i
  have hfin : ∀ W, Below (w2.alloc obj0).heap.size (w2.alloc obj0) W → Below w.heap.size w W := fun W h => hb5.trans (h.mono hb5.size)
  have Hfin := Lib.hid hfin
  clear hfin
  cases o with
  | none =>
    rintro e w3 ⟨rfl, hb6⟩
    have hb7 := Hfin.out _ hb6
    clear hb6 Hfin k0 k1
    go_wp2_with fail
    with_reducible refine (H4.out _ hb7).mono ?_
    rintro e w4 ⟨rfl, hb8⟩
    clear H4
    go_wp2
    go_ret
    exact ⟨rfl, hb8⟩
  | some t =>
    rintro e w3 ⟨A, c, rfl, hc, hr, hb6⟩
    have hb7 := Hfin.out _ hb6
    clear hb6 Hfin k0 k1 hr
    go_wp2_with fail
    with_reducible refine (H4.out _ hb7).mono ?_
    rintro e w4 ⟨rfl, hb8⟩
    clear H4
    go_wp2
    go_ret
    exact ⟨rfl, hb8⟩

set_option maxRecDepth 100000 in
set_option maxHeartbeats 2000000 in
theorem topTwice_BF (l q : Wd) (w : World) (hg : GV w) (hl : l.length ≤ 1048576) (hq : q.length ≤ 1048576) (hsuf : Lib.hasSuffix l [10] = false) (he : errB (endB l) = 0) (he2 : errB (endB l ++ endB l) ≠ 0) :
    Calls Tryz.prog 9 #[sv l, sv q] w fun e w' => e = .returned (.bool true) ∧ Below w.heap.size w w' := by
  have hX : sv (endB l) = .string ((⟨l.toArray⟩ : ByteArray) ++ (⟨#[10]⟩ : ByteArray)) := by rw [endB_no hsuf]; exact (sv_app2 l [10]).symm
  have hXX : sv (endB l ++ endB l) = .string (((⟨l.toArray⟩ : ByteArray) ++ (⟨#[10]⟩ : ByteArray)) ++ ((⟨l.toArray⟩ : ByteArray) ++ (⟨#[10]⟩ : ByteArray))) := by
    rw [endB_no hsuf]
    unfold sv
    congr 1
  have HSf : Hid (∀ W, Calls Tryz.prog 32 #[sv l, .string ⟨#[10]⟩] W fun e w' => e = .returned (.bool false) ∧ W = w') := Lib.hid fun W => by
    have := suffix_any l W hl
    rw [hsuf] at this
    exact this
  have H1 := Lib.hid (open_ok (endB l) w hg he)
  unfold OpenOK at H1
  generalize linesOf (endB l) = ls at *
  have H2 : Hid (∀ W, Below w.heap.size w W → Calls Tryz.prog 23 #[sv (endB l ++ endB l)] W fun e w' => e = .returned (.tuple #[sh0, .int .i64 (errB (endB l ++ endB l))]) ∧ Below W.heap.size W w') := Lib.hid fun W hW => open_err (endB l ++ endB l) W (hg.on hW) he2
  have H3 : Hid (∀ B s W, SHB w B ls s W → Calls Tryz.prog 26 #[.agg #[.slice s.A s.n s.c, .slice s.A2 s.n2 s.c2], sv q] W (SgPost W (sgn (Tx.bw ls) q))) := Lib.hid fun B s W hW => hW.signs (hg.on hW.old) q (by omega)
  have H4 : Hid (∀ W, Below w.heap.size w W → Calls Tryz.prog 25 #[] W fun e w' => e = .returned (.bool true) ∧ Below w.heap.size w w') := Lib.hid fun W hW => (alive_any W (hg.on hW)).mono fun e w' hh => ⟨hh.1, hW.trans (hh.2.mono hW.size)⟩
  rw [hX] at H1
  rw [hXX] at H2
  clear hX hXX
  generalize errB (endB l ++ endB l) = x2 at *
  generalize sgn (Tx.bw ls) q = o at *
  have hne : (x2 != 0) = true := by simpa using he2
  clear he hg he2 hsuf
  go_enter Tryz.func9, Tryz.ntmps9
  go_wp2_with fail
  with_reducible refine (HSf.out _).mono ?_
  rintro e w0 ⟨rfl, rfl⟩
  clear HSf
  go_wp2_with fail
  with_reducible refine H1.out.mono ?_
  rintro e w1 ⟨s, rfl, hsh, hb1⟩
  have J := SHB.start hsh hb1
  have H2i := Lib.hid (H2.out _ J.old)
  clear H1 H2 hsh hb1
  go_wp2_with fail
  with_reducible refine H2i.out.mono ?_
  rintro e w2 ⟨rfl, hb3⟩
  have J2 := J.on hb3
  have J3 := J2.on ((Below.refl _ w2).alloc (Nat.le_refl _) obj0)
  obtain ⟨c0, c1, c2, c3, c4, c5, c6⟩ := J2.cells
  have hlt2 := J2.lt
  have H3i := Lib.hid (H3.out _ _ _ J3)
  clear H2i H3 hb3 J J2
  go_wp2_with fail
  with_reducible refine H3i.out.mono ?_
  clear H3i
  cases o with
  | none =>
    rintro e w3 ⟨rfl, hb6⟩
    have hb7 := (J3.on hb6).old
    clear hb6 J3 c0 c1 c2 c3 c4 c5 c6
    go_wp2_with fail
    with_reducible refine (H4.out _ hb7).mono ?_
    rintro e w4 ⟨rfl, hb8⟩
    clear H4
    go_wp2
    go_ret
    exact ⟨rfl, hb8⟩
  | some t =>
    rintro e w3 ⟨A, c, rfl, hc, hr, hb6⟩
    have hb7 := (J3.on hb6).old
    clear hb6 hr J3 c0 c1 c2 c3 c4 c5 c6
    go_wp2_with fail
    with_reducible refine (H4.out _ hb7).mono ?_
    rintro e w4 ⟨rfl, hb8⟩
    clear H4
    go_wp2
    go_ret
    exact ⟨rfl, hb8⟩

set_option maxRecDepth 100000 in
set_option maxHeartbeats 4000000 in
theorem topTwice_CF (l q : Wd) (w : World) (hg : GV w) (hl : l.length ≤ 1048576) (hq : q.length ≤ 1048576) (hsuf : Lib.hasSuffix l [10] = false) (he : errB (endB l) = 0) (he2 : errB (endB l ++ endB l) = 0) :
    Calls Tryz.prog 9 #[sv l, sv q] w fun e w' => e = .returned (.bool true) ∧ Below w.heap.size w w' := by
  have hX : sv (endB l) = .string ((⟨l.toArray⟩ : ByteArray) ++ (⟨#[10]⟩ : ByteArray)) := by rw [endB_no hsuf]; exact (sv_app2 l [10]).symm
  have hXX : sv (endB l ++ endB l) = .string (((⟨l.toArray⟩ : ByteArray) ++ (⟨#[10]⟩ : ByteArray)) ++ ((⟨l.toArray⟩ : ByteArray) ++ (⟨#[10]⟩ : ByteArray))) := by
    rw [endB_no hsuf]
    unfold sv
    congr 1
  have HSf : Hid (∀ W, Calls Tryz.prog 32 #[sv l, .string ⟨#[10]⟩] W fun e w' => e = .returned (.bool false) ∧ W = w') := Lib.hid fun W => by
    have := suffix_any l W hl
    rw [hsuf] at this
    exact this
  have H1 := Lib.hid (open_ok (endB l) w hg he)
  unfold OpenOK at H1
  have H2 : Hid (∀ B s W, SHB w B (linesOf (endB l)) s W → Calls Tryz.prog 23 #[sv (endB l ++ endB l)] W fun e w' => ∃ s2 : Sf, e = .returned (.tuple #[s2.v, .int .i64 0]) ∧ SH w' (linesOf (endB l) ++ linesOf (endB l)) s2 ∧ SHB w B (linesOf (endB l)) s w') := Lib.hid fun B s W hW => by
    refine (open_ok (endB l ++ endB l) W (hg.on hW.old) he2).mono ?_
    rintro e w' ⟨s2, h1, h2, h3⟩
    rw [endB_lines] at h2
    exact ⟨s2, h1, h2, hW.on h3⟩
  have hls : linesOf (endB l) ≠ [] := (errB_ok he).2.1.ne
  generalize linesOf (endB l) = ls at *
  have H3 : Hid (∀ B1 s1 B2 s2 W, S2 w ls B1 s1 (ls ++ ls) B2 s2 W → Calls Tryz.prog 26 #[.agg #[.slice s1.A s1.n s1.c, .slice s1.A2 s1.n2 s1.c2], sv q] W (SgPost W (sgn (Tx.bw ls) q))) := Lib.hid fun B1 s1 B2 s2 W hW => hW.a.signs (hg.on hW.a.old) q (by omega)
  have K1 : Hid (∀ B1 s1 B2 s2 W, S2 w ls B1 s1 (ls ++ ls) B2 s2 W → Calls Tryz.prog 24 #[s1.v, sv q] W fun e w' => e = .returned (.int .i64 (cntW ls q : Nat)) ∧ S2 w ls B1 s1 (ls ++ ls) B2 s2 w') := Lib.hid fun B1 s1 B2 s2 W hW => (countS_any ls s1 q W hW.a.sh (hg.on hW.a.old) (by omega)).mono fun e w' hh => ⟨hh.1, hW.on hh.2⟩
  have K2 : Hid (∀ B1 s1 B2 s2 W, S2 w ls B1 s1 (ls ++ ls) B2 s2 W → Calls Tryz.prog 24 #[s2.v, sv q] W fun e w' => e = .returned (.int .i64 (cntW (ls ++ ls) q : Nat)) ∧ S2 w ls B1 s1 (ls ++ ls) B2 s2 w') := Lib.hid fun B1 s1 B2 s2 W hW => (countS_any (ls ++ ls) s2 q W hW.b.sh (hg.on hW.b.old) (by omega)).mono fun e w' hh => ⟨hh.1, hW.on hh.2⟩
  have H4 : Hid (∀ B1 s1 B2 s2 W, S2 w ls B1 s1 (ls ++ ls) B2 s2 W → Calls Tryz.prog 25 #[] W fun e w' => e = .returned (.bool true) ∧ S2 w ls B1 s1 (ls ++ ls) B2 s2 w') := Lib.hid fun B1 s1 B2 s2 W hW => (alive_any W (hg.on hW.a.old)).mono fun e w' hh => ⟨hh.1, hW.on hh.2⟩
  have HTw : Hid (∀ t, sgn (Tx.bw ls) q = some t → t ≠ [] → (∀ j, j + 1 < t.length → t.getD j 0 ≠ 1) → cntW (ls ++ ls) q = 2 * cntW ls q) := Lib.hid fun t ht h1 h2 => cnt_twice ls hls q t ht h1 h2
  have hcl := cntW_le ls q
  have hbl : Hid (∀ B s W, SHB w B ls s W → (bt ls).length ≤ 102) := Lib.hid fun B s W hW => hW.sh.short.2.2
  have HLn : Hid (∀ t, sgn (Tx.bw ls) q = some t → t.length ≤ 4000000000) := Lib.hid fun t ht => by have := sgn_length ht; omega
  rw [hX] at H1
  rw [hXX] at H2
  clear hX hXX
  generalize sgn (Tx.bw ls) q = o at *
  generalize cntW ls q = n at *
  generalize cntW (ls ++ ls) q = n2 at *
  generalize (bt ls).length = N at *
  clear he hg he2 hsuf hls
  go_enter Tryz.func9, Tryz.ntmps9
  go_wp2_with fail
  with_reducible refine (HSf.out _).mono ?_
  rintro e w0 ⟨rfl, rfl⟩
  clear HSf
  go_wp2_with fail
  with_reducible refine H1.out.mono ?_
  rintro e w1 ⟨s1, rfl, hsh, hb1⟩
  have J := SHB.start hsh hb1
  have hN := hbl.out _ _ _ J
  have H2i := Lib.hid (H2.out _ _ _ J)
  clear H1 H2 hsh hb1 hbl
  go_wp2_with fail
  with_reducible refine H2i.out.mono ?_
  rintro e w2 ⟨s2, rfl, hsh2, J2⟩
  have P : S2 w ls w1.heap.size s1 (ls ++ ls) w2.heap.size s2 (w2.alloc s2.obj) := ⟨J2.on ((Below.refl _ _).alloc (Nat.le_refl _) _), SHB.start hsh2 J2.old⟩
  have hB1 := J2.lt
  obtain ⟨c0, c1, c2, c3, c4, c5, c6⟩ := J2.cells
  have H3i := Lib.hid (H3.out _ _ _ _ _ P)
  clear H2i H3 J J2 hsh2
  go_wp2_with fail
  with_reducible refine H3i.out.mono ?_
  clear H3i c0 c1 c2 c3 c4 c5 c6
  generalize w2.alloc s2.obj = V at P ⊢
  generalize w1.heap.size = B1 at P ⊢
  generalize w2.heap.size = B2 at P ⊢
  cases o with
  | none =>
    rintro e w3 ⟨rfl, hb6⟩
    have P2 := P.on hb6
    have H4i := Lib.hid (H4.out _ _ _ _ _ P2)
    clear hb6 P P2 H4 K1 K2 HTw
    go_wp2_with fail
    with_reducible refine H4i.out.mono ?_
    rintro e w4 ⟨rfl, P3⟩
    have hold := P3.a.old
    clear H4i P3
    go_wp2
    go_ret
    exact ⟨rfl, hold⟩
  | some t =>
    rintro e w3 ⟨A, c, rfl, hc, hr, hb6⟩
    have P2 := P.on hb6
    have htl := HLn.out t rfl
    have HTt := Lib.hid (HTw.out t rfl)
    have HR : Hid (∀ i, i < t.length → ∃ b o, A = some ⟨b, o, none⟩ ∧ w3.cell? ⟨b, o + i, none⟩ = some (.int .i64 (t.getD i 0))) := Lib.hid fun i hi => by
      obtain ⟨b, o, e, _, hcc⟩ := hr (by omega)
      exact ⟨b, o, e, hcc i hi⟩
    clear hb6 P HTw HLn hr
    go_wp2_with fail
    go_loop [50] (fun u => ∃ k : Nat, k ≤ t.length ∧ u = .int .i64 k ∧ ∀ j, j < k → j + 1 < t.length → t.getD j 0 ≠ 1) (fun u => t.length - (intOf u).toNat)
    case atStart => exact ⟨0, Nat.zero_le _, rfl, fun j hj => absurd hj (by omega)⟩
    case round =>
      obtain ⟨k, hk, rfl, hinv⟩ := hrel
      have Hinv := Lib.hid hinv
      clear hinv
      by_cases hlt : k < t.length
      · have hlz : (k : Int) < (t.length : Int) := by omega
        obtain ⟨b, o, rfl, d0⟩ := HR.out k hlt
        have hw1 : IntKind.i64.wrap ((k : Int) + 1) = (k : Int) + 1 := w64 _ (by omega) (by omega)
        by_cases hx : t.getD k 0 = 1
        · rw [hx] at d0
          by_cases hk1 : k + 1 < t.length
          · have hz1 : (k : Int) + 1 < (t.length : Int) := by omega
            have H4i := Lib.hid (H4.out _ _ _ _ _ P2)
            clear P2 H4 K1 K2 HTt HR Hinv
            go_wp2_with fail
            with_reducible refine H4i.out.mono ?_
            rintro e w4 ⟨rfl, P3⟩
            have hold := P3.a.old
            clear H4i P3
            go_wp2
            go_ret
            exact ⟨rfl, hold⟩
          · have hz1 : ¬ ((k : Int) + 1 < (t.length : Int)) := by omega
            clear P2 H4 K1 K2 HTt HR
            go_wp2
            go_round
            case rel => exact ⟨k + 1, by omega, by go_num, fun j hj hj2 => by
              by_cases e : j = k
              · subst e; exact absurd hj2 (by omega)
              · exact Hinv.out j (by omega) hj2⟩
            case measure => simp [intOf]; omega
        · have hxz : (t.getD k 0 == 1) = false := by simpa using hx
          have Hx := Lib.hid hx
          have HG := Lib.hid (rfl : t.getD k 0 = t.getD k 0)
          clear hx
          generalize hy : t.getD k 0 = y at d0 hxz
          clear hy HG P2 H4 K1 K2 HTt HR
          go_wp2
          go_round
          case rel => exact ⟨k + 1, by omega, by go_num, fun j hj hj2 => by
            by_cases e : j = k
            · subst e; exact Hx.out
            · exact Hinv.out j (by omega) hj2⟩
          case measure => simp [intOf]; omega
      · obtain rfl : k = t.length := by omega
        obtain ⟨c0, c1, c2, c3, c4, c5, c6⟩ := P2.a.cells
        obtain ⟨d0, d1, d2, d3, d4, d5, d6⟩ := P2.b.cells
        have P6 := P2.on (Below.refl w3.heap.size w3).drew
        clear P2 HR
        by_cases h0 : t.length = 0
        · have hz0 : ((t.length : Int) == 0) = true := beq_iff_eq.2 (by omega)
          clear K1 K2 HTt Hinv
          go_wp2_with fail
          refine wp_region_mix 16 [(true, 0), (true, 1), (true, 2), (true, 3), (true, 4), (true, 5), (true, 7), (true, 8), (false, 6), (false, 9), (true, 10), (true, 11), (true, 12), (true, 13), (false, 14), (true, 15)] (fun w' => w'.cell? ⟨B1, 0, none⟩ = some (.slice s1.A s1.n s1.c) ∧ w'.cell? ⟨B1, 1, none⟩ = some (.slice s1.A2 s1.n2 s1.c2) ∧ w'.cell? ⟨B1, 2, none⟩ = some (.slice s1.E s1.N s1.cE) ∧ w'.cell? ⟨B1, 3, none⟩ = some (.int .i64 s1.N) ∧ w'.cell? ⟨B1, 4, none⟩ = some (.int .i64 10) ∧ w'.cell? ⟨B1, 5, none⟩ = some (.slice s1.L 10 s1.cL) ∧ w'.cell? ⟨B1, 6, none⟩ = some (.slice s1.S s1.M s1.cS) ∧ w'.cell? ⟨B2, 0, none⟩ = some (.slice s2.A s2.n s2.c) ∧ w'.cell? ⟨B2, 1, none⟩ = some (.slice s2.A2 s2.n2 s2.c2) ∧ w'.cell? ⟨B2, 2, none⟩ = some (.slice s2.E s2.N s2.cE) ∧ w'.cell? ⟨B2, 3, none⟩ = some (.int .i64 s2.N) ∧ w'.cell? ⟨B2, 4, none⟩ = some (.int .i64 10) ∧ w'.cell? ⟨B2, 5, none⟩ = some (.slice s2.L 10 s2.cL) ∧ w'.cell? ⟨B2, 6, none⟩ = some (.slice s2.S s2.M s2.cS)) (by kernel_rfl) (by kernel_rfl) ⟨c0, c1, c2, c3, c4, c5, c6, d0, d1, d2, d3, d4, d5, d6⟩ ?_
          refine wpMix_on (v := ?_) _ at0 rfl ?_ ?_ ?_
          rotate_left 1
          · rintro W ⟨x0, x1, x2, x3, x4, x5, x6, x7, x8, x9, x10, x11, x12, x13⟩
            go_simp
            rfl
          · exact fun _ _ _ h => h
          simp only [Act.put, List.setIfInBounds_toArray, List.set_cons_zero, List.set_cons_succ]
          refine wpMix_on (v := ?_) _ at1 rfl ?_ ?_ ?_
          rotate_left 1
          · rintro W ⟨x0, x1, x2, x3, x4, x5, x6, x7, x8, x9, x10, x11, x12, x13⟩
            go_simp
            rfl
          · exact fun _ _ _ h => h
          simp only [Act.put, List.setIfInBounds_toArray, List.set_cons_zero, List.set_cons_succ]
          refine wpMix_on (v := ?_) _ at2 rfl ?_ ?_ ?_
          rotate_left 1
          · rintro W ⟨x0, x1, x2, x3, x4, x5, x6, x7, x8, x9, x10, x11, x12, x13⟩
            go_simp
            rfl
          · exact fun _ _ _ h => h
          simp only [Act.put, List.setIfInBounds_toArray, List.set_cons_zero, List.set_cons_succ]
          refine wpMix_on (v := ?_) _ at3 rfl ?_ ?_ ?_
          rotate_left 1
          · rintro W ⟨x0, x1, x2, x3, x4, x5, x6, x7, x8, x9, x10, x11, x12, x13⟩
            go_simp
            rfl
          · exact fun _ _ _ h => h
          simp only [Act.put, List.setIfInBounds_toArray, List.set_cons_zero, List.set_cons_succ]
          refine wpMix_off _ at4 rfl ?_ ?_
          · exact fun _ _ _ h => h
          simp only [Act.put, List.setIfInBounds_toArray, List.set_cons_zero, List.set_cons_succ]
          refine wpMix_off _ at5 rfl ?_ ?_
          · exact fun _ _ _ h => h
          simp only [Act.put, List.setIfInBounds_toArray, List.set_cons_zero, List.set_cons_succ]
          refine wpMix_off _ at7 rfl ?_ ?_
          · exact fun _ _ _ h => h
          simp only [Act.put, List.setIfInBounds_toArray, List.set_cons_zero, List.set_cons_succ]
          refine wpMix_off _ at8 rfl ?_ ?_
          · exact fun _ _ _ h => h
          simp only [Act.put, List.setIfInBounds_toArray, List.set_cons_zero, List.set_cons_succ]
          refine wpMix_skip _ at6 rfl ?_
          simp only [Act.put, List.setIfInBounds_toArray, List.set_cons_zero, List.set_cons_succ]
          refine wpMix_skip _ at9 rfl ?_
          simp only [Act.put, List.setIfInBounds_toArray, List.set_cons_zero, List.set_cons_succ]
          refine wpMix_off _ at10 rfl ?_ ?_
          · exact fun _ _ _ h => h
          simp only [Act.put, List.setIfInBounds_toArray, List.set_cons_zero, List.set_cons_succ]
          refine wpMix_off _ at11 rfl ?_ ?_
          · exact fun _ _ _ h => h
          simp only [Act.put, List.setIfInBounds_toArray, List.set_cons_zero, List.set_cons_succ]
          refine wpMix_on (v := ?_) _ at12 rfl ?_ ?_ ?_
          rotate_left 1
          · rintro W ⟨x0, x1, x2, x3, x4, x5, x6, x7, x8, x9, x10, x11, x12, x13⟩
            go_simp
            rfl
          · exact fun _ _ _ h => h
          simp only [Act.put, List.setIfInBounds_toArray, List.set_cons_zero, List.set_cons_succ]
          refine wpMix_on (v := ?_) _ at13 rfl ?_ ?_ ?_
          rotate_left 1
          · rintro W ⟨x0, x1, x2, x3, x4, x5, x6, x7, x8, x9, x10, x11, x12, x13⟩
            go_simp
            rfl
          · exact fun _ _ _ h => h
          simp only [Act.put, List.setIfInBounds_toArray, List.set_cons_zero, List.set_cons_succ]
          refine wpMix_call _ at14 rfl fun K' hK' => ?_
          go_simp
          go_at_call 25
          refine (H4.out B1 s1 B2 s2 _ P6).mono ?_
          rintro e w9 ⟨rfl, P9⟩
          refine hK'.out _ _ ⟨P9.a.c0, P9.a.c1, P9.a.c2, P9.a.c3, P9.a.c4, P9.a.c5, P9.a.c6, P9.b.c0, P9.b.c1, P9.b.c2, P9.b.c3, P9.b.c4, P9.b.c5, P9.b.c6⟩ ?_
          clear hK' P6 H4
          refine wpMix_on (v := ?_) _ at15 rfl ?_ ?_ ?_
          rotate_left 1
          · rintro W ⟨x0, x1, x2, x3, x4, x5, x6, x7, x8, x9, x10, x11, x12, x13⟩
            go_simp
            rfl
          · exact fun _ _ _ h => h
          simp only [Act.put, List.setIfInBounds_toArray, List.set_cons_zero, List.set_cons_succ]
          refine wpMix_nil ?_
          have hold := P9.a.old
          clear P9
          simp only [List.drop_succ_cons, List.drop_zero]
          go_wp2
          go_ret
          exact ⟨by first | rfl | simp, hold⟩
        · have hz0 : ((t.length : Int) == 0) = false := beq_eq_false_iff_ne.2 (by omega)
          have hn2 : n2 = 2 * n := HTt.out (fun h => h0 (by rw [h]; rfl)) (fun j hj => Hinv.out j (by omega) hj)
          subst hn2
          have hw2 : IntKind.i64.wrap (2 * (n : Int)) = 2 * (n : Int) := w64 _ (by omega) (by omega)
          have hcc : (((2 * n : Nat) : Int) == 2 * (n : Int)) = true := by simp
          clear HTt Hinv
          go_wp2_with fail
          refine wp_region_mix 16 [(true, 0), (true, 1), (true, 2), (true, 3), (true, 4), (true, 5), (true, 7), (true, 8), (false, 6), (false, 9), (true, 10), (true, 11), (true, 12), (true, 13), (false, 14), (true, 15)] (fun w' => w'.cell? ⟨B1, 0, none⟩ = some (.slice s1.A s1.n s1.c) ∧ w'.cell? ⟨B1, 1, none⟩ = some (.slice s1.A2 s1.n2 s1.c2) ∧ w'.cell? ⟨B1, 2, none⟩ = some (.slice s1.E s1.N s1.cE) ∧ w'.cell? ⟨B1, 3, none⟩ = some (.int .i64 s1.N) ∧ w'.cell? ⟨B1, 4, none⟩ = some (.int .i64 10) ∧ w'.cell? ⟨B1, 5, none⟩ = some (.slice s1.L 10 s1.cL) ∧ w'.cell? ⟨B1, 6, none⟩ = some (.slice s1.S s1.M s1.cS) ∧ w'.cell? ⟨B2, 0, none⟩ = some (.slice s2.A s2.n s2.c) ∧ w'.cell? ⟨B2, 1, none⟩ = some (.slice s2.A2 s2.n2 s2.c2) ∧ w'.cell? ⟨B2, 2, none⟩ = some (.slice s2.E s2.N s2.cE) ∧ w'.cell? ⟨B2, 3, none⟩ = some (.int .i64 s2.N) ∧ w'.cell? ⟨B2, 4, none⟩ = some (.int .i64 10) ∧ w'.cell? ⟨B2, 5, none⟩ = some (.slice s2.L 10 s2.cL) ∧ w'.cell? ⟨B2, 6, none⟩ = some (.slice s2.S s2.M s2.cS)) (by kernel_rfl) (by kernel_rfl) ⟨c0, c1, c2, c3, c4, c5, c6, d0, d1, d2, d3, d4, d5, d6⟩ ?_
          refine wpMix_on (v := ?_) _ at0 rfl ?_ ?_ ?_
          rotate_left 1
          · rintro W ⟨x0, x1, x2, x3, x4, x5, x6, x7, x8, x9, x10, x11, x12, x13⟩
            go_simp
            rfl
          · exact fun _ _ _ h => h
          simp only [Act.put, List.setIfInBounds_toArray, List.set_cons_zero, List.set_cons_succ]
          refine wpMix_on (v := ?_) _ at1 rfl ?_ ?_ ?_
          rotate_left 1
          · rintro W ⟨x0, x1, x2, x3, x4, x5, x6, x7, x8, x9, x10, x11, x12, x13⟩
            go_simp
            rfl
          · exact fun _ _ _ h => h
          simp only [Act.put, List.setIfInBounds_toArray, List.set_cons_zero, List.set_cons_succ]
          refine wpMix_on (v := ?_) _ at2 rfl ?_ ?_ ?_
          rotate_left 1
          · rintro W ⟨x0, x1, x2, x3, x4, x5, x6, x7, x8, x9, x10, x11, x12, x13⟩
            go_simp
            rfl
          · exact fun _ _ _ h => h
          simp only [Act.put, List.setIfInBounds_toArray, List.set_cons_zero, List.set_cons_succ]
          refine wpMix_on (v := ?_) _ at3 rfl ?_ ?_ ?_
          rotate_left 1
          · rintro W ⟨x0, x1, x2, x3, x4, x5, x6, x7, x8, x9, x10, x11, x12, x13⟩
            go_simp
            rfl
          · exact fun _ _ _ h => h
          simp only [Act.put, List.setIfInBounds_toArray, List.set_cons_zero, List.set_cons_succ]
          refine wpMix_on (v := ?_) _ at4 rfl ?_ ?_ ?_
          rotate_left 1
          · rintro W ⟨x0, x1, x2, x3, x4, x5, x6, x7, x8, x9, x10, x11, x12, x13⟩
            go_simp
            rfl
          · exact fun _ _ _ h => h
          simp only [Act.put, List.setIfInBounds_toArray, List.set_cons_zero, List.set_cons_succ]
          refine wpMix_on (v := ?_) _ at5 rfl ?_ ?_ ?_
          rotate_left 1
          · rintro W ⟨x0, x1, x2, x3, x4, x5, x6, x7, x8, x9, x10, x11, x12, x13⟩
            go_simp
            rfl
          · exact fun _ _ _ h => h
          simp only [Act.put, List.setIfInBounds_toArray, List.set_cons_zero, List.set_cons_succ]
          refine wpMix_on (v := ?_) _ at7 rfl ?_ ?_ ?_
          rotate_left 1
          · rintro W ⟨x0, x1, x2, x3, x4, x5, x6, x7, x8, x9, x10, x11, x12, x13⟩
            go_simp
            rfl
          · exact fun _ _ _ h => h
          simp only [Act.put, List.setIfInBounds_toArray, List.set_cons_zero, List.set_cons_succ]
          refine wpMix_on (v := ?_) _ at8 rfl ?_ ?_ ?_
          rotate_left 1
          · rintro W ⟨x0, x1, x2, x3, x4, x5, x6, x7, x8, x9, x10, x11, x12, x13⟩
            go_simp
            rfl
          · exact fun _ _ _ h => h
          simp only [Act.put, List.setIfInBounds_toArray, List.set_cons_zero, List.set_cons_succ]
          refine wpMix_call _ at6 rfl fun K' hK' => ?_
          go_simp
          go_at_call 24
          refine (K2.out B1 s1 B2 s2 _ P6).mono ?_
          rintro e w7 ⟨rfl, P7⟩
          refine hK'.out _ _ ⟨P7.a.c0, P7.a.c1, P7.a.c2, P7.a.c3, P7.a.c4, P7.a.c5, P7.a.c6, P7.b.c0, P7.b.c1, P7.b.c2, P7.b.c3, P7.b.c4, P7.b.c5, P7.b.c6⟩ ?_
          clear hK' P6 K2 c0 c1 c2 c3 c4 c5 c6 d0 d1 d2 d3 d4 d5 d6
          refine wpMix_call _ at9 rfl fun K' hK' => ?_
          go_simp
          go_at_call 24
          refine (K1.out B1 s1 B2 s2 _ P7).mono ?_
          rintro e w8 ⟨rfl, P8⟩
          refine hK'.out _ _ ⟨P8.a.c0, P8.a.c1, P8.a.c2, P8.a.c3, P8.a.c4, P8.a.c5, P8.a.c6, P8.b.c0, P8.b.c1, P8.b.c2, P8.b.c3, P8.b.c4, P8.b.c5, P8.b.c6⟩ ?_
          clear hK' P7 K1
          refine wpMix_on (v := ?_) _ at10 rfl ?_ ?_ ?_
          rotate_left 1
          · rintro W ⟨x0, x1, x2, x3, x4, x5, x6, x7, x8, x9, x10, x11, x12, x13⟩
            go_simp
            rfl
          · exact fun _ _ _ h => h
          simp only [Act.put, List.setIfInBounds_toArray, List.set_cons_zero, List.set_cons_succ]
          refine wpMix_on (v := ?_) _ at11 rfl ?_ ?_ ?_
          rotate_left 1
          · rintro W ⟨x0, x1, x2, x3, x4, x5, x6, x7, x8, x9, x10, x11, x12, x13⟩
            go_simp
            rfl
          · exact fun _ _ _ h => h
          simp only [Act.put, List.setIfInBounds_toArray, List.set_cons_zero, List.set_cons_succ]
          refine wpMix_on (v := ?_) _ at12 rfl ?_ ?_ ?_
          rotate_left 1
          · rintro W ⟨x0, x1, x2, x3, x4, x5, x6, x7, x8, x9, x10, x11, x12, x13⟩
            go_simp
            rfl
          · exact fun _ _ _ h => h
          simp only [Act.put, List.setIfInBounds_toArray, List.set_cons_zero, List.set_cons_succ]
          refine wpMix_on (v := ?_) _ at13 rfl ?_ ?_ ?_
          rotate_left 1
          · rintro W ⟨x0, x1, x2, x3, x4, x5, x6, x7, x8, x9, x10, x11, x12, x13⟩
            go_simp
            rfl
          · exact fun _ _ _ h => h
          simp only [Act.put, List.setIfInBounds_toArray, List.set_cons_zero, List.set_cons_succ]
          refine wpMix_call _ at14 rfl fun K' hK' => ?_
          go_simp
          go_at_call 25
          refine (H4.out B1 s1 B2 s2 _ P8).mono ?_
          rintro e w9 ⟨rfl, P9⟩
          refine hK'.out _ _ ⟨P9.a.c0, P9.a.c1, P9.a.c2, P9.a.c3, P9.a.c4, P9.a.c5, P9.a.c6, P9.b.c0, P9.b.c1, P9.b.c2, P9.b.c3, P9.b.c4, P9.b.c5, P9.b.c6⟩ ?_
          clear hK' P8 H4
          refine wpMix_on (v := ?_) _ at15 rfl ?_ ?_ ?_
          rotate_left 1
          · rintro W ⟨x0, x1, x2, x3, x4, x5, x6, x7, x8, x9, x10, x11, x12, x13⟩
            go_simp
            rfl
          · exact fun _ _ _ h => h
          simp only [Act.put, List.setIfInBounds_toArray, List.set_cons_zero, List.set_cons_succ]
          refine wpMix_nil ?_
          have hold := P9.a.old
          clear P9
          simp only [List.drop_succ_cons, List.drop_zero]
          go_wp2
          go_ret
          exact ⟨by first | rfl | simp, hold⟩

theorem topTwice_any (s q : ByteArray) (w : World) (hg : GV w) (hs : s.data.toList.length ≤ 1048576) (hq : q.data.toList.length ≤ 1048576) :
    Calls Tryz.prog 9 #[.string s, .string q] w fun e w' => e = .returned (.bool true) ∧ Below w.heap.size w w' := by
  have e1 : Value.string s = sv s.data.toList := by unfold sv; rw [toArray_data]
  have e2 : Value.string q = sv q.data.toList := by unfold sv; rw [toArray_data]
  rw [e1, e2]
  generalize s.data.toList = l at *
  generalize q.data.toList = p at *
  cases hsuf : Lib.hasSuffix l [10]
  · by_cases he : errB (endB l) = 0
    · by_cases he2 : errB (endB l ++ endB l) = 0
      · exact topTwice_CF l p w hg hs hq hsuf he he2
      · exact topTwice_BF l p w hg hs hq hsuf he he2
    · exact topTwice_AF l p w hg hs hq hsuf he
  · by_cases he : errB (endB l) = 0
    · by_cases he2 : errB (endB l ++ endB l) = 0
      · exact topTwice_CT l p w hg hs hq hsuf he he2
      · exact topTwice_BT l p w hg hs hq hsuf he he2
    · exact topTwice_AT l p w hg hs hq hsuf he

end Go.Proofs.YtoejenejleocdabGreatDoor
