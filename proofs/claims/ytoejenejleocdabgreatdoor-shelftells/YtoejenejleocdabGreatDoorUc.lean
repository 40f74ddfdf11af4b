/- Package shelf, of what Open has made: likeliest, Guess, Likely. -/
import Derived.Test.YtoejenejleocdabGreatDoorUb
import Derived.Deep.RegionHeld3
namespace Go.Proofs.YtoejenejleocdabGreatDoor
open Go.RowKit Tx
attribute [local irreducible] Bt.pop Bt.popF

/-- two parts of one D, in blocks of their own: the greatest so far -/
structure LkI (w : World) (B : Nat) (N : Nat) (f : Nat → Nat) (d m g : Nat) (i : Nat) (W : World) : Prop where
  row : W.rowIs g 24 (m * 2) (ptF (fun k => Pt.red (f (k + 1)) d) m)
  box : Bx2 w B (.int .i64 ((Pt.red (Pt.best f i).2 d).1 : Nat)) (.int .i64 ((Pt.red (Pt.best f i).2 d).2 : Nat)) W
  sign : N = (Pt.best f i).1

set_option maxRecDepth 100000 in
set_option maxHeartbeats 2000000 in
theorem likeliest_any (f : Nat → Nat) (d m g c : Nat) (w : World) (hd : 0 < d) (hf : ∀ x, f x ≤ d) (hdd : d ≤ 2147483648) (hm : m ≤ 1024) (hr : w.rowIs g 24 (m * 2) (ptF (fun k => Pt.red (f (k + 1)) d) m)) :
    Calls Tryz.prog 58 #[.slice (some ⟨g, 0, none⟩) m c] w fun e w' => e = .returned (.int .i64 ((Pt.best f m).1 : Nat)) ∧ Below w.heap.size w w' := by
  have X0 := Bx2.new (Below.refl _ w) (.int .i64 0) (.int .i64 1) 24
  have hr0 := hr.alloc (.cells #[.int .i64 0, .int .i64 1] 24)
  have hgl := hr.lt
  have hb0 : ∀ i, (Pt.best f i).2 ≤ d := fun i => by
    rcases Pt.best_is f i with h | h
    · rw [h]; simp
    · rw [← h.2]; exact hf _
  have HS : Hid (Pt.red (Pt.best f 0).2 d = (0, 1)) := Lib.hid (Pt.red_zero hd)
  have HM : Hid (∀ i W, Calls Tryz.prog 96 #[.agg #[.int .i64 ((Pt.red (f (i + 1)) d).1 : Nat), .int .i64 ((Pt.red (f (i + 1)) d).2 : Nat)], .agg #[.int .i64 ((Pt.red (Pt.best f i).2 d).1 : Nat), .int .i64 ((Pt.red (Pt.best f i).2 d).2 : Nat)]] W fun e w' => e = .returned (.bool (decide ((Pt.best f i).2 < f (i + 1)))) ∧ Below W.heap.size W w') := Lib.hid fun i W => by
    have k1 := (Pt.red_le (f (i + 1)) d).1
    have k2 := (Pt.red_le (f (i + 1)) d).2
    have k3 := (Pt.red_le (Pt.best f i).2 d).1
    have k4 := (Pt.red_le (Pt.best f i).2 d).2
    have k5 := hf (i + 1)
    have k6 := hb0 i
    have e1 : (Pt.red (f (i + 1)) d).1 * (Pt.red (Pt.best f i).2 d).2 ≤ 2147483648 * 2147483648 := Nat.mul_le_mul (by omega) (by omega)
    have e2 : (Pt.red (Pt.best f i).2 d).1 * (Pt.red (f (i + 1)) d).2 ≤ 2147483648 * 2147483648 := Nat.mul_le_mul (by omega) (by omega)
    have := isMore_any (Pt.red (f (i + 1)) d).1 (Pt.red (f (i + 1)) d).2 (Pt.red (Pt.best f i).2 d).1 (Pt.red (Pt.best f i).2 d).2 W (by omega) (by omega)
    rw [show decide ((Pt.red (Pt.best f i).2 d).1 * (Pt.red (f (i + 1)) d).2 < (Pt.red (f (i + 1)) d).1 * (Pt.red (Pt.best f i).2 d).2) = decide ((Pt.best f i).2 < f (i + 1)) from decide_eq_decide.2 (Pt.red_more _ _ _ hd)] at this
    exact this
  have HY := Lib.hid (Pt.best_yes f)
  have HN := Lib.hid (Pt.best_no f)
  have HR := Lib.hid (Pt.best_rng f)
  clear hr hb0 hf hdd
  go_enter Tryz.func58, Tryz.ntmps58
  go_wp2
  go_loopw [3, 10] (fun s t W => ∃ i N : Nat, i ≤ m ∧ t = .int .i64 i ∧ s = .int .i64 N ∧ LkI w w.heap.size N f d m g i W) (fun _ t _ => m - (intOf t).toNat)
  case atStart => exact ⟨0, 0, Nat.zero_le _, rfl, rfl, hr0, by rw [HS.out]; exact X0, rfl⟩
  case round =>
    obtain ⟨i, N, hi, rfl, rfl, J⟩ := hrel
    clear X0 hr0 HS
    generalize wr = V at *
    by_cases hlt : i < m
    · have hlz : (i : Int) < (m : Int) := by omega
      obtain ⟨d0, d1⟩ := parts_at J.row hlt hlt
      have x0 := J.box.c0
      have x1 := J.box.c1
      have xlt := J.box.lt
      have hgV := J.row.lt
      have HMi := Lib.hid (HM.out i)
      have hNi := HR.out i
      have HNs := Lib.hid J.sign
      have hRow := J.row.alloc (.cells #[.int .i64 ((Pt.red (f (i + 1)) d).1 : Nat), .int .i64 ((Pt.red (f (i + 1)) d).2 : Nat)] 24)
      have hbV := (Below.refl _ V).alloc (Nat.le_refl _) (.cells #[.int .i64 ((Pt.red (f (i + 1)) d).1 : Nat), .int .i64 ((Pt.red (f (i + 1)) d).2 : Nat)] 24)
      have X1 := J.box.on hbV
      have Q0 := Bx2.new J.box.old (.int .i64 ((Pt.red (f (i + 1)) d).1 : Nat)) (.int .i64 ((Pt.red (f (i + 1)) d).2 : Nat)) 24
      clear HM J HR hbV
      by_cases hmore : (Pt.best f i).2 < f (i + 1)
      · have hdm : decide ((Pt.best f i).2 < f (i + 1)) = true := decide_eq_true hmore
        rw [hdm] at HMi
        have HB := Lib.hid (HY.out i hmore)
        clear HY HN hmore hdm
        generalize hq : Pt.red (f (i + 1)) d = q at *
        have Hq := Lib.hid hq
        clear hq
        generalize hp : Pt.red (Pt.best f i).2 d = p at *
        clear hp
        go_wp2_with fail
        with_reducible refine (HMi.out _).mono ?_
        rintro e V2 ⟨rfl, hb2⟩
        have X2 := X1.on hb2
        have Q2 := Q0.on hb2
        have hRow2 := hRow.of_block (hb2.block _ hRow.lt)
        clear HMi X1 Q0 hRow hb2 x0 x1
        have x0 := X2.c0
        have x1 := X2.c1
        have f0 := X2.f0
        have f1 := X2.f1
        have q0 := Q2.c0
        have q1 := Q2.c1
        have X3 := X2.set (.int .i64 (q.1 : Nat)) (.int .i64 (q.2 : Nat))
        have hRow3 := (hRow2.setOther (a := ⟨w.heap.size, 0, none⟩) (by show g ≠ w.heap.size; omega) (.int .i64 (q.1 : Nat))).setOther (a := ⟨w.heap.size, 1, none⟩) (by show g ≠ w.heap.size; omega) (.int .i64 (q.2 : Nat))
        go_wp2
        go_region
        all_goals
          go_wp2
          go_roundw
          case rel => exact ⟨i + 1, i + 1, by omega, by go_num, by go_num, hRow3.of_block ((Below.refl _ _).drew.block _ hRow3.lt), by rw [HB.out, Hq.out]; exact X3.drew, by rw [HB.out]⟩
          case measure => simp [intOf]; omega
      · have hdm : decide ((Pt.best f i).2 < f (i + 1)) = false := decide_eq_false hmore
        rw [hdm] at HMi
        have HB := Lib.hid (HN.out i hmore)
        clear HY HN hmore hdm
        generalize hq : Pt.red (f (i + 1)) d = q at *
        clear hq
        generalize hp : Pt.red (Pt.best f i).2 d = p at *
        have Hp := Lib.hid hp
        clear hp
        go_wp2_with fail
        with_reducible refine (HMi.out _).mono ?_
        rintro e V2 ⟨rfl, hb2⟩
        have X2 := X1.on hb2
        have hRow2 := hRow.of_block (hb2.block _ hRow.lt)
        clear HMi X1 Q0 hRow hb2 x0 x1
        go_wp2
        go_roundw
        case rel => exact ⟨i + 1, N, by omega, by go_num, rfl, hRow2, by rw [HB.out, Hp.out]; exact X2, by rw [HB.out]; exact HNs.out⟩
        case measure => simp [intOf]; omega
    · obtain rfl : i = m := by omega
      have hold := J.box.old
      rw [J.sign]
      clear HM J
      go_wp2
      go_ret
      exact ⟨rfl, hold⟩

theorem SHB.cells {w0 : World} {B : Nat} {ls : List (List Wd)} {s : Sf} {W : World} (h : SHB w0 B ls s W) : W.cell? ⟨B, 0, none⟩ = some (.slice s.A s.n s.c) ∧ W.cell? ⟨B, 1, none⟩ = some (.slice s.A2 s.n2 s.c2) ∧ W.cell? ⟨B, 2, none⟩ = some (.slice s.E s.N s.cE) ∧ W.cell? ⟨B, 3, none⟩ = some (.int .i64 s.N) ∧ W.cell? ⟨B, 4, none⟩ = some (.int .i64 10) ∧ W.cell? ⟨B, 5, none⟩ = some (.slice s.L 10 s.cL) ∧ W.cell? ⟨B, 6, none⟩ = some (.slice s.S s.M s.cS) :=
  ⟨h.c0, h.c1, h.c2, h.c3, h.c4, h.c5, h.c6⟩
theorem toks_lines : ∀ (ls : List (List Wd)), ls ≠ [] → (toks ls).length + 1 = ls.flatten.length + ls.length
  | [], h => absurd rfl h
  | [L], _ => by simp [toks]
  | L :: M :: r, _ => by
    have ih := toks_lines (M :: r) (by simp)
    simp only [toks, List.length_append, List.length_map, List.length_cons, List.flatten_cons] at ih ⊢
    omega
/-- the likeliest of a book's signs -/
theorem likeliest_book (ls : List (List Wd)) (t : List Int) (hF : Formed ls) (hc : ls.flatten.length + ls.length ≤ 100) (g c : Nat) (w : World) (hr : w.rowIs g 24 (En.most (bt ls) * 2) (ptF (fun i => Pt.lik (bt ls) t ((i + 1 : Nat) : Int)) (En.most (bt ls)))) :
    Calls Tryz.prog 58 #[.slice (some ⟨g, 0, none⟩) (En.most (bt ls)) c] w fun e w' => e = .returned (.int .i64 (bestS (bt ls) t : Nat)) ∧ Below w.heap.size w w' := by
  have hm : 0 < En.most (bt ls) := by rw [bt_most]; omega
  have hm2 : En.most (bt ls) ≤ 1024 := by have h1 := bt_most ls; have h2 := bw_length ls; omega
  have hsg := bt_sg ls
  have hlen : (bt ls).length ≤ 101 := by
    have h1 := bt_length ls
    have h2 := toks_lines ls hF.1
    omega
  have hd := (Pt.lv_pos hsg 0 hm (Pt.last2 t)).2
  have hb := Pt.lv_tight hsg hlen (bt_every ls) 0 (Pt.last2 t) (by rw [Pt.last2_len]; omega)
  have hr2 : w.rowIs g 24 (En.most (bt ls) * 2) (ptF (fun k => Pt.red ((fun x => if x = 0 ∨ En.most (bt ls) < x then 0 else (Pt.lv (bt ls) x (Pt.last2 t)).1) (k + 1)) (Pt.lv (bt ls) 0 (Pt.last2 t)).2) (En.most (bt ls))) :=
    hr.congr (fun i hi => by
      unfold ptF
      have e : Pt.lik (bt ls) t ((i / 2 + 1 : Nat) : Int) = Pt.red (if i / 2 + 1 = 0 ∨ En.most (bt ls) < i / 2 + 1 then 0 else (Pt.lv (bt ls) (i / 2 + 1) (Pt.last2 t)).1) (Pt.lv (bt ls) 0 (Pt.last2 t)).2 := by
        rw [Pt.lik_yes (bt ls) t (i / 2 + 1) (by omega) (by omega), if_neg (by omega), Pt.lv_den (bt ls) (i / 2 + 1) 0]
      dsimp only
      rw [e])
  have := likeliest_any (fun x => if x = 0 ∨ En.most (bt ls) < x then 0 else (Pt.lv (bt ls) x (Pt.last2 t)).1) (Pt.lv (bt ls) 0 (Pt.last2 t)).2 (En.most (bt ls)) g c w hd (fun x => by
    show (if x = 0 ∨ En.most (bt ls) < x then 0 else (Pt.lv (bt ls) x (Pt.last2 t)).1) ≤ _
    split
    · omega
    · rw [Pt.lv_den (bt ls) 0 x]
      exact Pt.lv_le hsg _ x (by omega) (by omega)) hb hm2 hr2
  rw [Pt.best_congr (g := fun x => (Pt.lv (bt ls) x (Pt.last2 t)).1) _ (fun x h1 h2 => by show (if x = 0 ∨ En.most (bt ls) < x then 0 else (Pt.lv (bt ls) x (Pt.last2 t)).1) = _; rw [if_neg (by omega)])] at this
  exact this

set_option maxRecDepth 100000 in
set_option maxHeartbeats 1000000 in
theorem guessS_no (ls : List (List Wd)) (s : Sf) (q : Wd) (w : World) (h : SH w ls s) (hg : GV w) (hq : q.length ≤ 1000000000) (hn : sgn (Tx.bw ls) q = none) :
    Calls Tryz.prog 30 #[s.v, sv q] w fun e w' => e = .returned (.tuple #[sv [], .int .i64 3]) ∧ Below w.heap.size w w' := by
  have J : SHB w w.heap.size ls s (w.alloc s.obj) := SHB.start h (Below.refl _ _)
  have hb0 := (Below.refl _ w).alloc (Nat.le_refl _) s.obj
  have HS := Lib.hid (J.signs (hg.on hb0) q hq)
  rw [hn] at HS
  clear h hg hq hn
  go_enter Tryz.func30, Tryz.ntmps30
  go_wp2_with fail
  with_reducible refine HS.out.mono ?_
  rintro e w1 ⟨rfl, hb1⟩
  have hold := (J.on hb1).old
  clear HS J
  go_wp2
  go_ret2
  exact ⟨rfl, hold⟩

set_option maxRecDepth 100000 in
set_option maxHeartbeats 2000000 in
theorem guessS_yes (ls : List (List Wd)) (s : Sf) (q : Wd) (t : List Int) (w : World) (h : SH w ls s) (hg : GV w) (hq : q.length ≤ 1000000000) (hn : sgn (Tx.bw ls) q = some t) :
    Calls Tryz.prog 30 #[s.v, sv q] w fun e w' => e = .returned (.tuple #[sv (gsW ls t), .int .i64 0]) ∧ Below w.heap.size w w' := by
  have J : SHB w w.heap.size ls s (w.alloc s.obj) := SHB.start h (Below.refl _ _)
  have hb0 := (Below.refl _ w).alloc (Nat.le_refl _) s.obj
  have HS := Lib.hid (J.signs (hg.on hb0) q hq)
  rw [hn] at HS
  have hlt := sgn_length hn
  have hsh := h.short
  have hn2 : 0 < s.n2 := by have h1 := h.book.tlen; have h2 := bt_length ls; omega
  have hz2 : ((s.n2 : Int) == 0) = false := by simp; omega
  have HAll : Hid (∀ A c W, SHB w w.heap.size ls s W → IRow W W.heap.size A t → t.length ≤ c → Calls Tryz.prog 22 #[.agg #[.slice s.E s.N s.cE, .int .i64 s.N, .int .i64 10, .slice s.L 10 s.cL, .slice s.S s.M s.cS], .slice A t.length c] W fun e w' => ∃ g, e = .returned (.slice (some ⟨g, 0, none⟩) (En.most (bt ls)) (En.most (bt ls))) ∧ w'.rowIs g 24 (En.most (bt ls) * 2) (ptF (fun i => Pt.lik (bt ls) t ((i + 1 : Nat) : Int)) (En.most (bt ls))) ∧ SHB w w.heap.size ls s w') := Lib.hid fun A c W hW hr hc => by
    refine (all_any s.E s.L s.S A s.cE s.cL s.cS s.N s.M c t.length (bt ls) t W hW.sh.cmb hW.sh.len hW.sh.num hW.sh.capE hW.sh.capL hr rfl hc (by omega) (by omega)).mono ?_
    rintro e w' ⟨g, h1, h2, _, h4⟩
    exact ⟨g, h1, h2, hW.on h4⟩
  have HLk : Hid (∀ g W, SHB w w.heap.size ls s W → W.rowIs g 24 (En.most (bt ls) * 2) (ptF (fun i => Pt.lik (bt ls) t ((i + 1 : Nat) : Int)) (En.most (bt ls))) → Calls Tryz.prog 58 #[.slice (some ⟨g, 0, none⟩) (En.most (bt ls)) (En.most (bt ls))] W fun e w' => e = .returned (.int .i64 (bestS (bt ls) t : Nat)) ∧ SHB w w.heap.size ls s w') := Lib.hid fun g W hW hP =>
    (likeliest_book ls t hW.sh.form hW.sh.few g _ W hP).mono fun e w' hh => ⟨hh.1, hW.on hh.2⟩
  have HWo : Hid (∀ W, SHB w w.heap.size ls s W → Calls Tryz.prog 57 #[.agg #[.slice s.A s.n s.c, .slice s.A2 s.n2 s.c2], .int .i64 (bestS (bt ls) t : Nat)] W fun e w' => e = .returned (.tuple #[sv (gsW ls t), .int .i64 0]) ∧ SHB w w.heap.size ls s w') := Lib.hid fun W hW => by
    obtain ⟨b1, b2, _⟩ := best_sign ls t
    have hm := bt_most ls
    have hw := hW.sh.book.wlen
    exact (wordOf_any ls s.A s.n s.c s.A2 s.n2 s.c2 (bestS (bt ls) t) W hW.sh.book b1 (by omega) (by omega)).mono fun e w' hh => ⟨hh.1, hW.on hh.2⟩
  clear h hg hq hn hsh hlt
  generalize En.most (bt ls) = m at *
  generalize bestS (bt ls) t = k at *
  generalize gsW ls t = x at *
  generalize (fun i : Nat => Pt.lik (bt ls) t ((i + 1 : Nat) : Int)) = f at *
  go_enter Tryz.func30, Tryz.ntmps30
  go_wp2_with fail
  with_reducible refine HS.out.mono ?_
  rintro e w1 ⟨A, c, rfl, hc, hr, hb1⟩
  have J1 := J.on hb1
  have HR : Hid (∀ W, Below w1.heap.size w1 W → IRow W W.heap.size A t) := Lib.hid fun W hW => hr.on hW
  have hd0 := (Below.refl w1.heap.size w1).drew
  have J2 := J1.drew
  obtain ⟨c0, c1, c2, c3, c4, c5, c6⟩ := J1.cells
  have HAl := Lib.hid (HAll.out A c w1.drew J2 (HR.out _ hd0) hc)
  clear HS J hb1 hr HR hd0 HAll J1
  go_wp2_with fail
  go_region_held3 (fun w' => w'.cell? ⟨w.heap.size, 0, none⟩ = some (.slice s.A s.n s.c) ∧ w'.cell? ⟨w.heap.size, 1, none⟩ = some (.slice s.A2 s.n2 s.c2) ∧ w'.cell? ⟨w.heap.size, 2, none⟩ = some (.slice s.E s.N s.cE) ∧ w'.cell? ⟨w.heap.size, 3, none⟩ = some (.int .i64 s.N) ∧ w'.cell? ⟨w.heap.size, 4, none⟩ = some (.int .i64 10) ∧ w'.cell? ⟨w.heap.size, 5, none⟩ = some (.slice s.L 10 s.cL) ∧ w'.cell? ⟨w.heap.size, 6, none⟩ = some (.slice s.S s.M s.cS)) (first | exact ⟨c0, c1, c2, c3, c4, c5, c6⟩ | go_keep)
    (first
      | (go_at_call 22; refine HAl.out.mono ?_; rintro e w3 ⟨g, rfl, hP, J3⟩; obtain ⟨i0, i1, i2, i3, i4, i5, i6⟩ := J3.cells)
      | (go_at_call 58; refine (HLk.out _ _ ?_ ?_).mono ?_; assumption; assumption; rintro e w4 ⟨rfl, J4⟩; obtain ⟨i0, i1, i2, i3, i4, i5, i6⟩ := J4.cells)
      | (go_at_call 57; refine (HWo.out _ ?_).mono ?_; assumption; rintro e w5 ⟨rfl, J5⟩; obtain ⟨i0, i1, i2, i3, i4, i5, i6⟩ := J5.cells))
  all_goals
    go_wp2
    go_ret2
    exact ⟨rfl, J5.old⟩

end Go.Proofs.YtoejenejleocdabGreatDoor
