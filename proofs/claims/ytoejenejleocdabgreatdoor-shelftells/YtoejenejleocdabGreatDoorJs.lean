import Derived.Test.YtoejenejleocdabGreatDoorVh
import Derived.Test.YtoejenejleocdabGreatDoorJr
import Derived.Test.YtoejenejleocdabGreatDoorVe
import Derived.Test.YtoejenejleocdabGreatDoorHc
import Derived.Test.YtoejenejleocdabGreatDoorJl
/- The law ShelfTells: what it compares (mathematics), the two books in memory. -/
namespace Go.Proofs.YtoejenejleocdabGreatDoor
open Go.RowKit Tx
attribute [local irreducible] Bt.pop Bt.popF

/-- ReadText, of every text -/
theorem readText_any (l : Wd) (w : World) : Calls Tryz.prog 33 #[sv l] w (ReadPost l w) := by
  by_cases h : l.length ≤ 400
  · exact readText_small l w h
  · have e : errB l = 2 := by unfold errB; rw [if_pos (by omega)]
    refine (readText_long l w (by omega)).mono fun e' w' hh => .inr ⟨by rw [e]; decide, by rw [e]; exact hh.1, hh.2⟩

/-- the likeliest of the first n signs, and how likely a sign is -/
def bst (ls : List (List Wd)) (t : List Int) (n : Nat) : Nat := (Pt.best (fun x => (Pt.lv (bt ls) x (Pt.last2 t)).1) n).1
def lkN (ls : List (List Wd)) (t : List Int) (k : Nat) : Nat × Nat := Pt.lik (bt ls) t (k : Int)
theorem bst_pos (ls : List (List Wd)) (t : List Int) (n : Nat) (hn : 0 < n) : 1 ≤ bst ls t n ∧ bst ls t n ≤ n ∧ (Pt.lv (bt ls) (bst ls t n) (Pt.last2 t)).1 = (Pt.best (fun x => (Pt.lv (bt ls) x (Pt.last2 t)).1) n).2 := by
  have hm : 0 < En.most (bt ls) := by rw [bt_most]; omega
  exact Pt.best_pos (fun x => (Pt.lv (bt ls) x (Pt.last2 t)).1) n hn (Pt.lv_pos (bt_sg ls) 1 hm _).1
theorem bst_one (ls : List (List Wd)) (t : List Int) : bst ls t 1 = 1 := by
  have := bst_pos ls t 1 (by omega)
  omega
theorem bst_all (ls : List (List Wd)) (t : List Int) (n : Nat) (hn : n = (Tx.bw ls).length) : wordS ls (bst ls t (n + 1)) = gsW ls t := by
  unfold gsW bestS
  rw [bt_most, ← hn]
  rfl
theorem lkN_eq (ls : List (List Wd)) (t : List Int) (k : Nat) (h1 : 1 ≤ k) (h2 : k ≤ En.most (bt ls)) : lkN ls t k = Pt.red (Pt.lv (bt ls) k (Pt.last2 t)).1 (Pt.lv (bt ls) 0 (Pt.last2 t)).2 := by
  unfold lkN
  rw [Pt.lik_yes (bt ls) t k h1 h2, Pt.lv_den (bt ls) k 0]
theorem bst_step (ls : List (List Wd)) (t : List Int) (i : Nat) (hi : i + 2 ≤ En.most (bt ls)) :
    bst ls t (i + 2) = if (lkN ls t (bst ls t (i + 1))).1 * (lkN ls t (i + 2)).2 < (lkN ls t (i + 2)).1 * (lkN ls t (bst ls t (i + 1))).2 then i + 2 else bst ls t (i + 1) := by
  have hm : 0 < En.most (bt ls) := by omega
  have hd := (Pt.lv_pos (bt_sg ls) 0 hm (Pt.last2 t)).2
  obtain ⟨h1, h2, h3⟩ := bst_pos ls t (i + 1) (by omega)
  rw [lkN_eq ls t (i + 2) (by omega) hi, lkN_eq ls t (bst ls t (i + 1)) h1 (by omega)]
  have hr := Pt.red_more (Pt.lv (bt ls) (i + 2) (Pt.last2 t)).1 (Pt.lv (bt ls) (bst ls t (i + 1)) (Pt.last2 t)).1 (Pt.lv (bt ls) 0 (Pt.last2 t)).2 hd
  by_cases hc : (Pt.best (fun x => (Pt.lv (bt ls) x (Pt.last2 t)).1) (i + 1)).2 < (Pt.lv (bt ls) (i + 2) (Pt.last2 t)).1
  · rw [if_pos (hr.2 (by rw [h3]; exact hc))]
    unfold bst
    rw [Pt.best_yes _ (i + 1) hc]
  · rw [if_neg (fun h => hc (by have := hr.1 h; rw [h3] at this; exact this))]
    unfold bst
    rw [Pt.best_no _ (i + 1) hc]
theorem lkN_small (ls : List (List Wd)) (t : List Int) (hF : Formed ls) (hc : ls.flatten.length + ls.length ≤ 100) (k : Nat) (h1 : 1 ≤ k) (h2 : k ≤ En.most (bt ls)) : (lkN ls t k).1 ≤ 2147483648 ∧ (lkN ls t k).2 ≤ 2147483648 := by
  have hsg := bt_sg ls
  have hlen : (bt ls).length ≤ 101 := by
    have h1 := bt_length ls
    have h2 := toks_lines ls hF.1
    omega
  have hb := Pt.lv_tight hsg hlen (bt_every ls) 0 (Pt.last2 t) (by rw [Pt.last2_len]; omega)
  have hle := Pt.lv_le hsg (Pt.last2 t) k h1 h2
  rw [Pt.lv_den (bt ls) k 0] at hle
  rw [lkN_eq ls t k h1 h2]
  have := Pt.red_le (Pt.lv (bt ls) k (Pt.last2 t)).1 (Pt.lv (bt ls) 0 (Pt.last2 t)).2
  omega
/-- as the law compares them -/
theorem lkN_cmp (a b : Nat × Nat) (ha : a.1 ≤ 2147483648 ∧ a.2 ≤ 2147483648) (hb : b.1 ≤ 2147483648 ∧ b.2 ≤ 2147483648) :
    decide (IntKind.i64.wrap ((a.1 : Int) * (b.2 : Int)) < IntKind.i64.wrap ((b.1 : Int) * (a.2 : Int))) = decide (a.1 * b.2 < b.1 * a.2) := by
  have e1 : a.1 * b.2 ≤ 2147483648 * 2147483648 := Nat.mul_le_mul ha.1 hb.2
  have e2 : b.1 * a.2 ≤ 2147483648 * 2147483648 := Nat.mul_le_mul hb.1 ha.2
  rw [show (a.1 : Int) * (b.2 : Int) = ((a.1 * b.2 : Nat) : Int) by simp, show (b.1 : Int) * (a.2 : Int) = ((b.1 * a.2 : Nat) : Int) by simp]
  generalize a.1 * b.2 = x at *
  generalize b.1 * a.2 = y at *
  rw [w64 _ (by omega) (by omega), w64 _ (by omega) (by omega)]
  apply decide_eq_decide.2
  omega

/-- the shelf and the book of nothing, in their boxes -/
structure ZL (w0 : World) (B D : Nat) (W : World) : Prop where
  sh : W.rowIs B 45 7 shZ
  bk : W.rowIs D 43 2 zeroBook
  old : Below w0.heap.size w0 W
theorem ZL.on {w0 : World} {B D : Nat} {W W' : World} (h : ZL w0 B D W) (hb : Below W.heap.size W W') : ZL w0 B D W' :=
  ⟨h.sh.of_block (hb.block _ h.sh.lt), h.bk.of_block (hb.block _ h.bk.lt), h.old.trans (hb.mono h.old.size)⟩
theorem ZL.cells {w0 : World} {B D : Nat} {W : World} (h : ZL w0 B D W) : (W.cell? ⟨B, 0, none⟩ = some (.slice none 0 0) ∧ W.cell? ⟨B, 1, none⟩ = some (.slice none 0 0) ∧ W.cell? ⟨B, 2, none⟩ = some (.slice none 0 0) ∧ W.cell? ⟨B, 3, none⟩ = some (.int .i64 0) ∧ W.cell? ⟨B, 4, none⟩ = some (.int .i64 0) ∧ W.cell? ⟨B, 5, none⟩ = some (.slice none 0 0) ∧ W.cell? ⟨B, 6, none⟩ = some (.slice none 0 0)) ∧ W.cell? ⟨D, 0, none⟩ = some (.slice none 0 0) ∧ W.cell? ⟨D, 1, none⟩ = some (.slice none 0 0) :=
  ⟨⟨h.sh.cell (by omega), h.sh.cell (by omega), h.sh.cell (by omega), h.sh.cell (by omega), h.sh.cell (by omega), h.sh.cell (by omega), h.sh.cell (by omega)⟩, h.bk.cell (by omega), h.bk.cell (by omega)⟩
theorem ZL.start {w0 w1 w2 : World} (hb1 : Below w0.heap.size w0 w1) (hb2 : Below (w1.alloc obj0).heap.size (w1.alloc obj0) w2) : ZL w0 w1.heap.size w2.heap.size (w2.alloc (.cells #[.slice none 0 0, .slice none 0 0] 43)) := by
  have h1 := shZ_alloc w1
  have h2 := h1.of_block (hb2.block _ h1.lt)
  have ho : Below w0.heap.size w0 w2 := (hb1.alloc hb1.size obj0).trans (hb2.mono (by have := hb1.size; simp; omega))
  refine ⟨h2.alloc _, World.rowIs_alloc w2 #[.slice none 0 0, .slice none 0 0] 43 zeroBook (fun i hi => by
    match i, hi with
    | 0, _ => rfl
    | 1, _ => rfl), ho.alloc ho.size _⟩

/-- the shelf that Open has made, the book that ReadText has made, each in its box -/
structure TL (w0 : World) (ls : List (List Wd)) (s : Sf) (B D : Nat) (A A2 : Option Addr) (c c2 : Nat) (W : World) : Prop where
  sh : SHB w0 B ls s W
  d0 : W.cell? ⟨D, 0, none⟩ = some (.slice A s.n c)
  d1 : W.cell? ⟨D, 1, none⟩ = some (.slice A2 s.n2 c2)
  bk : BookAt W A s.n c A2 s.n2 (Tx.bw ls) (bt ls)
  lt : D < W.heap.size
section
variable {w0 : World} {ls : List (List Wd)} {s : Sf} {B D : Nat} {A A2 : Option Addr} {c c2 : Nat} {W W' : World}
theorem TL.on (h : TL w0 ls s B D A A2 c c2 W) (hb : Below W.heap.size W W') : TL w0 ls s B D A A2 c c2 W' :=
  ⟨h.sh.on hb, (hb.cell (p := ⟨D, 0, none⟩) h.lt).trans h.d0, (hb.cell (p := ⟨D, 1, none⟩) h.lt).trans h.d1, h.bk.on hb, Nat.lt_of_lt_of_le h.lt hb.size⟩
theorem TL.start (hJ : SHB w0 B ls s W) (hb : BookAt W A s.n c A2 s.n2 (Tx.bw ls) (bt ls)) : TL w0 ls s B W.heap.size A A2 c c2 (W.alloc (.cells #[.slice A s.n c, .slice A2 s.n2 c2] 43)) := by
  have hn := (Below.refl _ W).alloc (Nat.le_refl _) (.cells #[.slice A s.n c, .slice A2 s.n2 c2] 43)
  exact ⟨hJ.on hn, by simp, by simp, hb.on hn, by simp⟩
theorem TL.gv (h : TL w0 ls s B D A A2 c c2 W) (hg : GV w0) : GV W := hg.on h.sh.old
theorem TL.same (h : TL w0 ls s B D A A2 c c2 W) : Calls Tryz.prog 34 #[.agg #[.slice s.A s.n s.c, .slice s.A2 s.n2 s.c2], .agg #[.slice A s.n c, .slice A2 s.n2 c2]] W fun e w' => e = .returned (.bool true) ∧ Below W.heap.size W w' := by
  have h1 := h.sh.sh.short
  have h2 := h.sh.sh.book.tlen
  exact sameBook_yes (Tx.bw ls) (bt ls) s.A s.n s.c s.A2 s.n2 s.c2 A c A2 c2 W h.sh.sh.book.words h.bk.words h.sh.sh.book.text h.bk.text h.bk.wlen h.bk.tlen (by omega) (by omega)
theorem TL.signs (h : TL w0 ls s B D A A2 c c2 W) (hg : GV w0) (q : Wd) (hq : q.length ≤ 1048576) : Calls Tryz.prog 36 #[.agg #[.slice A s.n c, .slice A2 s.n2 c2], sv q] W (SgPost W (sgn (Tx.bw ls) q)) := by
  have h1 := h.sh.sh.short
  exact signsOf_any (Tx.bw ls) q A s.n c A2 s.n2 c2 W (h.gv hg) h.bk.words h.bk.wlen (by omega) (bw_rising ls) hq
theorem TL.likelyOf (h : TL w0 ls s B D A A2 c c2 W) (At : Option Addr) (ct : Nat) (t : List Int) (ht : IRow W W.heap.size At t) (hct : t.length ≤ ct) (hts : t.length ≤ 17592186044416) (x : Int) : Calls Tryz.prog 21 #[.slice A2 s.n2 c2, .slice At t.length ct, .int .i64 x, .int .i64 ((s.n : Int) + 1)] W fun e w' => e = .returned (.agg #[.int .i64 ((Pt.lik (bt ls) t x).1 : Nat), .int .i64 ((Pt.lik (bt ls) t x).2 : Nat)]) ∧ Below W.heap.size W w' := by
  have h1 := h.sh.sh.short
  have h2 := bt_most ls
  have h3 := h.bk.wlen
  have := likelyOf_any A2 At c2 ct s.n2 t.length (s.n + 1) x (bt ls) t W h.bk.tlen rfl (by omega) h.bk.text ht hct (bt_sg ls) (by omega) (by omega) hts
  rw [show (((s.n + 1 : Nat)) : Int) = (s.n : Int) + 1 by omega] at this
  exact this
theorem TL.placesOf (h : TL w0 ls s B D A A2 c c2 W) (At : Option Addr) (ct : Nat) (t : List Int) (ht : IRow W W.heap.size At t) (hts : t.length ≤ 17592186044416) : Calls Tryz.prog 37 #[.slice A2 s.n2 c2, .slice At t.length ct] W (Ints W (up (En.plc (bt ls) t))) := by
  have h1 := h.sh.sh.short
  rw [h.bk.tlen]
  exact placesOf_any A2 At c2 ct (bt ls) t W h.bk.text ht (by omega) hts
end

end Go.Proofs.YtoejenejleocdabGreatDoor

/- The law ShelfTells: a text that has no book; words that the book does not have. -/
namespace Go.Proofs.YtoejenejleocdabGreatDoor
open Go.RowKit Tx
attribute [local irreducible] Bt.pop Bt.popF

/-- signs, whatever they are -/
theorem sg_some {w : World} {r : Option (List Int)} {e : Ending} {w' : World} (h : SgPost w r e w') : ∃ A n c bb, e = .returned (.tuple #[.slice A n c, .bool bb]) ∧ Below w.heap.size w w' := by
  cases r with
  | none => exact ⟨none, 0, 0, false, h.1, h.2⟩
  | some t =>
    obtain ⟨A, c, h1, _, _, h2⟩ := h
    exact ⟨A, t.length, c, true, h1, h2⟩

set_option maxRecDepth 100000 in
set_option maxHeartbeats 4000000 in
theorem shelfTells_err (l q o : Wd) (w : World) (hg : GV w) (hq : q.length ≤ 1048576) (ho : o.length ≤ 1048576) (he : errB l ≠ 0) :
    Calls Tryz.prog 11 #[sv l, sv q, sv o] w fun e w' => e = .returned (.bool true) ∧ Below w.heap.size w w' := by
  have H1 := Lib.hid (open_err l w hg he)
  have H2 : Hid (∀ W, Calls Tryz.prog 33 #[sv l] W fun e w' => e = .returned (.tuple #[.agg #[.slice none 0 0, .slice none 0 0], .int .i64 (errB l)]) ∧ Below W.heap.size W w') := Lib.hid fun W => (readText_any l W).mono fun e w' hh => by
    rcases hh with ⟨h, _⟩ | ⟨_, h1, h2⟩
    · exact absurd h he
    · exact ⟨h1, h2⟩
  have H3 : Hid (∀ W, Calls Tryz.prog 34 #[.agg #[.slice none 0 0, .slice none 0 0], .agg #[.slice none 0 0, .slice none 0 0]] W fun e w' => e = .returned (.bool true) ∧ Below W.heap.size W w') := Lib.hid fun W =>
    sameBook_yes [] [] none 0 0 none 0 0 none 0 none 0 W (fun h => absurd h (by simp)) (fun h => absurd h (by simp)) (fun h => absurd h (by simp)) (fun h => absurd h (by simp)) rfl rfl (by omega) (by omega)
  have H4 : Hid (∀ B D W, ZL w B D W → Calls Tryz.prog 35 #[] W fun e w' => e = .returned (.bool true) ∧ Below W.heap.size W w') := Lib.hid fun B D W hW => shelvesL_any W (hg.on hW.old)
  have H5 : Hid (∀ B D W, ZL w B D W → Calls Tryz.prog 36 #[.agg #[.slice none 0 0, .slice none 0 0], sv q] W fun e w' => ∃ A n c bb, e = .returned (.tuple #[.slice A n c, .bool bb]) ∧ Below W.heap.size W w') := Lib.hid fun B D W hW =>
    (signsOf_any [] q none 0 0 none 0 0 W (hg.on hW.old) (fun h => absurd h (by simp)) rfl (by omega) List.Pairwise.nil hq).mono fun e w' hh => sg_some hh
  have H6 : Hid (∀ B D W, ZL w B D W → Calls Tryz.prog 36 #[.agg #[.slice none 0 0, .slice none 0 0], sv o] W fun e w' => ∃ A n c bb, e = .returned (.tuple #[.slice A n c, .bool bb]) ∧ Below W.heap.size W w') := Lib.hid fun B D W hW =>
    (signsOf_any [] o none 0 0 none 0 0 W (hg.on hW.old) (fun h => absurd h (by simp)) rfl (by omega) List.Pairwise.nil ho).mono fun e w' hh => sg_some hh
  have H7 : Hid (∀ B D W, ZL w B D W → Calls Tryz.prog 29 #[sh0, sv q, sv o] W (SomePE W)) := Lib.hid fun B D W hW => likelyS_zero q o W (hg.on hW.old) (by omega) (by omega)
  have H8 : Hid (∀ B D W, ZL w B D W → Calls Tryz.prog 30 #[sh0, sv q] W fun e w' => e = .returned (.tuple #[.string ⟨#[]⟩, .int .i64 3]) ∧ Below W.heap.size W w') := Lib.hid fun B D W hW => guessS_zero q W (hg.on hW.old) (by omega)
  generalize errB l = x at *
  have hne : (x != 0) = true := by simpa using he
  have hxx : (x != x) = false := by simp
  clear he hg hq ho
  go_enter Tryz.func11, Tryz.ntmps11
  go_wp2_with fail
  with_reducible refine H1.out.mono ?_
  rintro e w1 ⟨rfl, hb1⟩
  clear H1
  go_wp2_with fail
  with_reducible refine (H2.out _).mono ?_
  rintro e w2 ⟨rfl, hb2⟩
  have J := ZL.start hb1 hb2
  have b1 : w1.heap.size < w2.heap.size := by have := hb2.size; simp at this; omega
  clear H2 hb1 hb2
  obtain ⟨⟨c0, c1, c2, c3, c4, c5, c6⟩, d0, d1⟩ := J.cells
  have H4i := Lib.hid (fun W h => H4.out _ _ W (J.on h))
  go_wp2_with fail
  with_reducible refine (H3.out _).mono ?_
  rintro e w3 ⟨rfl, hb3⟩
  have J3 := J.on hb3
  clear H3 J c0 c1 c2 c3 c4 c5 c6 d0 d1
  go_wp2_with fail
  with_reducible refine (H4i.out _ hb3).mono ?_
  rintro e w4 ⟨rfl, hb4⟩
  have J4 := J3.on hb4
  clear H4 H4i J3 hb3 hb4
  obtain ⟨⟨c0, c1, c2, c3, c4, c5, c6⟩, d0, d1⟩ := J4.cells
  have Hi := Lib.hid (H5.out _ _ _ J4)
  clear H5
  go_wp2_with fail
  with_reducible refine Hi.out.mono ?_
  rintro e w5 ⟨A5, n5, k5, bb5, rfl, hb5⟩
  have J5 := J4.on hb5
  clear Hi hb5 J4 c0 c1 c2 c3 c4 c5 c6 d0 d1
  obtain ⟨⟨c0, c1, c2, c3, c4, c5, c6⟩, d0, d1⟩ := J5.cells
  have Hi := Lib.hid (H6.out _ _ _ J5)
  clear H6
  go_wp2_with fail
  with_reducible refine Hi.out.mono ?_
  rintro e w6 ⟨A6, n6, k6, bb6, rfl, hb6⟩
  have J6 := J5.on hb6
  clear Hi hb6 J5 c0 c1 c2 c3 c4 c5 c6 d0 d1
  obtain ⟨⟨c0, c1, c2, c3, c4, c5, c6⟩, d0, d1⟩ := J6.cells
  have Hi := Lib.hid (H7.out _ _ _ J6)
  clear H7
  go_wp2_with fail
  with_reducible refine Hi.out.mono ?_
  rintro e w7 ⟨p1, p2, g7, rfl, hb7⟩
  have J7 := (J6.on hb7).on ((Below.refl _ w7).alloc (Nat.le_refl _) (.cells #[.int .i64 p1, .int .i64 p2] 24))
  clear Hi hb7 J6 c0 c1 c2 c3 c4 c5 c6 d0 d1
  obtain ⟨⟨c0, c1, c2, c3, c4, c5, c6⟩, d0, d1⟩ := J7.cells
  have Hi := Lib.hid (H8.out _ _ _ J7)
  clear H8
  go_wp2_with fail
  with_reducible refine Hi.out.mono ?_
  rintro e w8 ⟨rfl, hb8⟩
  have J8 := J7.on hb8
  clear Hi hb8 J7 c0 c1 c2 c3 c4 c5 c6 d0 d1
  obtain ⟨⟨c0, c1, c2, c3, c4, c5, c6⟩, d0, d1⟩ := J8.cells
  have hold := J8.old
  go_wp2
  go_ret
  exact ⟨by first | rfl | simp, hold⟩

end Go.Proofs.YtoejenejleocdabGreatDoor

/- The law ShelfTells: words that the book does not have. -/
namespace Go.Proofs.YtoejenejleocdabGreatDoor
open Go.RowKit Tx
attribute [local irreducible] Bt.pop Bt.popF

set_option maxRecDepth 100000 in
set_option maxHeartbeats 4000000 in
theorem shelfTells_none (l q o : Wd) (w : World) (hg : GV w) (hq : q.length ≤ 1048576) (ho : o.length ≤ 1048576) (he : errB l = 0) (hn : sgn (Tx.bw (linesOf l)) q = none) :
    Calls Tryz.prog 11 #[sv l, sv q, sv o] w fun e w' => e = .returned (.bool true) ∧ Below w.heap.size w w' := by
  have H1 := Lib.hid (open_ok l w hg he)
  unfold OpenOK at H1
  have H2 : Hid (∀ W, Calls Tryz.prog 33 #[sv l] W (ReadOK l W)) := Lib.hid fun W => (readText_any l W).mono fun e w' hh => by
    rcases hh with ⟨_, h⟩ | ⟨h, _⟩
    · exact h
    · exact absurd he h
  unfold ReadOK at H2
  generalize linesOf l = ls at *
  have H3 : Hid (∀ s B D A A2 c c2 W, TL w ls s B D A A2 c c2 W → Calls Tryz.prog 34 #[.agg #[.slice s.A s.n s.c, .slice s.A2 s.n2 s.c2], .agg #[.slice A s.n c, .slice A2 s.n2 c2]] W fun e w' => e = .returned (.bool true) ∧ Below W.heap.size W w') := Lib.hid fun s B D A A2 c c2 W h => h.same
  have H4 : Hid (∀ s B D A A2 c c2 W, TL w ls s B D A A2 c c2 W → Calls Tryz.prog 35 #[] W fun e w' => e = .returned (.bool true) ∧ Below W.heap.size W w') := Lib.hid fun s B D A A2 c c2 W h => shelvesL_any W (h.gv hg)
  have H5 : Hid (∀ s B D A A2 c c2 W, TL w ls s B D A A2 c c2 W → Calls Tryz.prog 36 #[.agg #[.slice A s.n c, .slice A2 s.n2 c2], sv q] W fun e w' => e = .returned (.tuple #[.slice none 0 0, .bool false]) ∧ Below W.heap.size W w') := Lib.hid fun s B D A A2 c c2 W h => by
    have := h.signs hg q hq
    rw [hn] at this
    exact this
  have H6 : Hid (∀ s B D A A2 c c2 W, TL w ls s B D A A2 c c2 W → Calls Tryz.prog 36 #[.agg #[.slice A s.n c, .slice A2 s.n2 c2], sv o] W fun e w' => ∃ A n c bb, e = .returned (.tuple #[.slice A n c, .bool bb]) ∧ Below W.heap.size W w') := Lib.hid fun s B D A A2 c c2 W h => (h.signs hg o ho).mono fun e w' hh => sg_some hh
  have H7 : Hid (∀ s B D A A2 c c2 W, TL w ls s B D A A2 c c2 W → Calls Tryz.prog 29 #[s.v, sv q, sv o] W fun e w' => e = .returned (.tuple #[.agg #[.int .i64 0, .int .i64 0], .int .i64 3]) ∧ Below W.heap.size W w') := Lib.hid fun s B D A A2 c c2 W h => likelyS_no1 ls s q o W h.sh.sh (h.gv hg) (by omega) hn
  have H8 : Hid (∀ s B D A A2 c c2 W, TL w ls s B D A A2 c c2 W → Calls Tryz.prog 30 #[s.v, sv q] W fun e w' => e = .returned (.tuple #[.string ⟨#[]⟩, .int .i64 3]) ∧ Below W.heap.size W w') := Lib.hid fun s B D A A2 c c2 W h => guessS_no ls s q W h.sh.sh (h.gv hg) (by omega) hn
  have H9 : Hid (∀ s B D A A2 c c2 W, TL w ls s B D A A2 c c2 W → Calls Tryz.prog 24 #[s.v, sv q] W fun e w' => e = .returned (.int .i64 0) ∧ Below W.heap.size W w') := Lib.hid fun s B D A A2 c c2 W h => by
    have := countS_any ls s q W h.sh.sh (h.gv hg) (by omega)
    rw [show cntW ls q = 0 by unfold cntW; rw [hn]] at this
    exact this
  have H10 : Hid (∀ s B D A A2 c c2 W, TL w ls s B D A A2 c c2 W → Calls Tryz.prog 27 #[s.v, sv q] W fun e w' => ∃ A c, e = .returned (.slice A 0 c) ∧ Below W.heap.size W w') := Lib.hid fun s B D A A2 c c2 W h => by
    have := placesS_any ls s q W h.sh.sh (h.gv hg) (by omega)
    rw [show plcW ls q = [] by unfold plcW; rw [hn]] at this
    exact this.mono fun e w' ⟨A, c, h1, _, h3⟩ => ⟨A, c, h1, h3⟩
  clear hg hq ho he hn
  go_enter Tryz.func11, Tryz.ntmps11
  go_wp2_with fail
  with_reducible refine H1.out.mono ?_
  rintro e w1 ⟨s, rfl, hsh, hb1⟩
  have J0 := SHB.start hsh hb1
  clear H1 hsh hb1
  go_wp2_with fail
  with_reducible refine (H2.out _).mono ?_
  rintro e w2 ⟨A, n, c, A2, n2, c2, rfl, hbk, _, hb2⟩
  have J1 := J0.on hb2
  obtain rfl : n = s.n := hbk.wlen.trans J1.sh.book.wlen.symm
  obtain rfl : n2 = s.n2 := hbk.tlen.trans J1.sh.book.tlen.symm
  have J2 := TL.start (c2 := c2) J1 hbk
  clear H2 hb2 hbk J0 J1
  generalize w1.heap.size = B at J2 ⊢
  obtain ⟨c0, c1, c3, c4, c5, c6, c7⟩ := J2.sh.cells
  obtain ⟨d0, d1⟩ : _ ∧ _ := ⟨J2.d0, J2.d1⟩
  have blt := J2.sh.lt
  have Hi := Lib.hid (H3.out _ _ _ _ _ _ _ _ J2)
  clear H3
  go_wp2_with fail
  with_reducible refine Hi.out.mono ?_
  rintro e w3 ⟨rfl, hb3⟩
  have J3 := J2.on hb3
  clear Hi hb3 J2 c0 c1 c3 c4 c5 c6 c7 d0 d1 blt
  generalize w2.heap.size = D at J3 ⊢
  have Hi := Lib.hid (H4.out _ _ _ _ _ _ _ _ J3)
  clear H4
  go_wp2_with fail
  with_reducible refine Hi.out.mono ?_
  rintro e w4 ⟨rfl, hb4⟩
  have J4 := J3.on hb4
  clear Hi hb4 J3
  obtain ⟨c0, c1, c3, c4, c5, c6, c7⟩ := J4.sh.cells
  obtain ⟨d0, d1⟩ : _ ∧ _ := ⟨J4.d0, J4.d1⟩
  have Hi := Lib.hid (H5.out _ _ _ _ _ _ _ _ J4)
  clear H5
  go_wp2_with fail
  with_reducible refine Hi.out.mono ?_
  rintro e w5 ⟨rfl, hb5⟩
  have J5 := J4.on hb5
  clear Hi hb5 J4 c0 c1 c3 c4 c5 c6 c7 d0 d1
  obtain ⟨c0, c1, c3, c4, c5, c6, c7⟩ := J5.sh.cells
  obtain ⟨d0, d1⟩ : _ ∧ _ := ⟨J5.d0, J5.d1⟩
  have Hi := Lib.hid (H6.out _ _ _ _ _ _ _ _ J5)
  clear H6
  go_wp2_with fail
  with_reducible refine Hi.out.mono ?_
  rintro e w6 ⟨A6, n6, k6, bb6, rfl, hb6⟩
  have J6 := J5.on hb6
  clear Hi hb6 J5 c0 c1 c3 c4 c5 c6 c7 d0 d1
  obtain ⟨c0, c1, c3, c4, c5, c6, c7⟩ := J6.sh.cells
  obtain ⟨d0, d1⟩ : _ ∧ _ := ⟨J6.d0, J6.d1⟩
  have Hi := Lib.hid (H7.out _ _ _ _ _ _ _ _ J6)
  clear H7
  go_wp2_with fail
  with_reducible refine Hi.out.mono ?_
  rintro e w7 ⟨rfl, hb7⟩
  have J7 := (J6.on hb7).on ((Below.refl _ w7).alloc (Nat.le_refl _) (.cells #[.int .i64 0, .int .i64 0] 24))
  have X7 := (Bx2.new (Below.refl _ w7) (.int .i64 0) (.int .i64 0) 24)
  clear Hi hb7 J6 c0 c1 c3 c4 c5 c6 c7 d0 d1
  obtain ⟨c0, c1, c3, c4, c5, c6, c7⟩ := J7.sh.cells
  obtain ⟨d0, d1⟩ : _ ∧ _ := ⟨J7.d0, J7.d1⟩
  have Hi := Lib.hid (H8.out _ _ _ _ _ _ _ _ J7)
  clear H8
  go_wp2_with fail
  with_reducible refine Hi.out.mono ?_
  rintro e w8 ⟨rfl, hb8⟩
  have J8 := J7.on hb8
  have X8 := X7.on hb8
  clear X7
  clear Hi hb8 J7 c0 c1 c3 c4 c5 c6 c7 d0 d1
  obtain ⟨c0, c1, c3, c4, c5, c6, c7⟩ := J8.sh.cells
  obtain ⟨d0, d1⟩ : _ ∧ _ := ⟨J8.d0, J8.d1⟩
  have Hi := Lib.hid (H9.out _ _ _ _ _ _ _ _ J8)
  clear H9
  go_wp2_with fail
  with_reducible refine Hi.out.mono ?_
  rintro e w9 ⟨rfl, hb9⟩
  have J9 := J8.on hb9
  have X9 := X8.on hb9
  clear X8
  clear Hi hb9 J8 c0 c1 c3 c4 c5 c6 c7 d0 d1
  obtain ⟨c0, c1, c3, c4, c5, c6, c7⟩ := J9.sh.cells
  obtain ⟨d0, d1⟩ : _ ∧ _ := ⟨J9.d0, J9.d1⟩
  have Hi := Lib.hid (H10.out _ _ _ _ _ _ _ _ J9)
  clear H10
  go_wp2_with fail
  with_reducible refine Hi.out.mono ?_
  rintro e w10 ⟨A10, k10, rfl, hb10⟩
  have J10 := J9.on hb10
  have X10 := X9.on hb10
  clear X9
  clear Hi hb10 J9 c0 c1 c3 c4 c5 c6 c7 d0 d1
  have x0 := X10.c0
  have x1 := X10.c1
  have hold := J10.sh.old
  clear J10 X10
  go_wp2
  go_ret
  exact ⟨by first | rfl | simp, hold⟩

end Go.Proofs.YtoejenejleocdabGreatDoor
