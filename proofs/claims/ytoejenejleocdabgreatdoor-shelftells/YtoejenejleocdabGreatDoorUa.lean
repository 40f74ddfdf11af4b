/- A shelf in memory; the signs of words, told by sgn; what shelf.Open answers of every text. -/
import Derived.Test.YtoejenejleocdabGreatDoorJw
import Derived.Test.YtoejenejleocdabGreatDoorJv
import Derived.Test.YtoejenejleocdabGreatDoorJz
import Derived.Test.YtoejenejleocdabGreatDoorJh
import Derived.Deep.RegionHeld3
namespace Go.Proofs.YtoejenejleocdabGreatDoor
open Go.RowKit Tx
attribute [local irreducible] Bt.pop Bt.popF

/-- the variables of the library and of the program that are read -/
structure GV (w : World) : Prop where
  ml : ∃ m, w.cell? ⟨1, 0, none⟩ = some (.int .i64 m)
  ng : NG w
theorem GV.on {w w' : World} (h : GV w) (hb : Below w.heap.size w w') : GV w' := by
  obtain ⟨m, hm⟩ := h.ml
  exact ⟨⟨m, (hb.cell (p := ⟨1, 0, none⟩) (World.block_lt_of_cell? _ _ hm)).trans hm⟩, h.ng.on hb⟩

/-- the signs of words: what text.Signs answers -/
def SgPost (w : World) : Option (List Int) → Ending → World → Prop
  | some t, e, w' => ∃ A c, e = .returned (.tuple #[.slice A t.length c, .bool true]) ∧ t.length ≤ c ∧ IRow w' w'.heap.size A t ∧ Below w.heap.size w w'
  | none, e, w' => e = .returned (.tuple #[.slice none 0 0, .bool false]) ∧ Below w.heap.size w w'
theorem sgn_length {ws : List Wd} {q : Wd} {t : List Int} (h : sgn ws q = some t) : t.length ≤ 3 * q.length + 2 := by
  unfold sgn at h
  split at h
  · cases h
    have := toks_cut q
    simp only [nums, List.length_map]
    omega
  · cases h
theorem signs_any (ws : List Wd) (q : Wd) (A : Option Addr) (n c : Nat) (A2 : Option Addr) (n2 c2 : Nat) (w : World) (hg : GV w) (hA : SRow w w.heap.size A ws) (hn : n = ws.length) (hb : n ≤ 4294967296) (hq : q.length ≤ 1000000000) :
    Calls Tryz.prog 26 #[.agg #[.slice A n c, .slice A2 n2 c2], sv q] w (SgPost w (sgn ws q)) := by
  obtain ⟨m, hm⟩ := hg.ml
  cases hin : allIn (findIn ws) (cutB q)
  · have e : sgn ws q = none := by unfold sgn; rw [hin]; rfl
    rw [e]
    exact signs_no ws q A n c A2 n2 c2 m w hA hn hb hq hm hin
  · have e : sgn ws q = some (nums (findIn ws) (toks (cutB q))) := by unfold sgn; rw [hin]; rfl
    rw [e]
    refine (signs_yes ws q A n c A2 n2 c2 m w hA hn hb hq hm hin).mono ?_
    rintro e w' ⟨A', c', rfl, h1, h2, h3⟩
    have hl : (nums (findIn ws) (toks (cutB q))).length = (toks (cutB q)).length := by simp [nums]
    exact ⟨A', c', by rw [hl], by rw [hl]; exact h1, h2, h3⟩

/-- where a shelf's lists lie, and how long they are -/
structure Sf where
  A : Option Addr
  n : Nat
  c : Nat
  A2 : Option Addr
  n2 : Nat
  c2 : Nat
  E : Option Addr
  N : Nat
  cE : Nat
  L : Option Addr
  cL : Nat
  S : Option Addr
  M : Nat
  cS : Nat
abbrev Sf.v (s : Sf) : Value := .agg #[.slice s.A s.n s.c, .slice s.A2 s.n2 s.c2, .slice s.E s.N s.cE, .int .i64 s.N, .int .i64 10, .slice s.L 10 s.cL, .slice s.S s.M s.cS]
abbrev Sf.obj (s : Sf) : Obj := .cells #[.slice s.A s.n s.c, .slice s.A2 s.n2 s.c2, .slice s.E s.N s.cE, .int .i64 s.N, .int .i64 10, .slice s.L 10 s.cL, .slice s.S s.M s.cS] 45
/-- the shelf of lines -/
structure SH (w : World) (ls : List (List Wd)) (s : Sf) : Prop where
  book : BookAt w s.A s.n s.c s.A2 s.n2 (Tx.bw ls) (bt ls)
  tcap : s.n2 ≤ s.c2
  cmb : Cmb w s.E s.L s.S (bt ls)
  len : s.N = (bt ls).length
  num : s.M = En.most (bt ls) + 2
  capE : s.N ≤ s.cE
  capL : 10 ≤ s.cL
  form : Formed ls
  few : ls.flatten.length + ls.length ≤ 100
theorem SH.on {w w' : World} {ls : List (List Wd)} {s : Sf} (h : SH w ls s) (hb : Below w.heap.size w w') : SH w' ls s :=
  ⟨h.book.on hb, h.tcap, h.cmb.on hb, h.len, h.num, h.capE, h.capL, h.form, h.few⟩
theorem SH.short {w : World} {ls : List (List Wd)} {s : Sf} (h : SH w ls s) : s.n ≤ 100 ∧ (Tx.bw ls).length ≤ 100 ∧ (bt ls).length ≤ 102 := by
  have h1 := h.few
  have h2 := bw_length ls
  have h3 := bt_length ls
  have h4 := toks_length ls
  have h5 := h.book.wlen
  omega
theorem SH.signs {w : World} {ls : List (List Wd)} {s : Sf} (h : SH w ls s) (hg : GV w) (q : Wd) (hq : q.length ≤ 1000000000) :
    Calls Tryz.prog 26 #[.agg #[.slice s.A s.n s.c, .slice s.A2 s.n2 s.c2], sv q] w (SgPost w (sgn (Tx.bw ls) q)) :=
  signs_any (Tx.bw ls) q s.A s.n s.c s.A2 s.n2 s.c2 w hg h.book.words h.book.wlen (by have := h.short; omega) hq

/-- a shelf in a block of its own -/
structure SHB (w0 : World) (B : Nat) (ls : List (List Wd)) (s : Sf) (W : World) : Prop where
  c0 : W.cell? ⟨B, 0, none⟩ = some (.slice s.A s.n s.c)
  c1 : W.cell? ⟨B, 1, none⟩ = some (.slice s.A2 s.n2 s.c2)
  c2 : W.cell? ⟨B, 2, none⟩ = some (.slice s.E s.N s.cE)
  c3 : W.cell? ⟨B, 3, none⟩ = some (.int .i64 s.N)
  c4 : W.cell? ⟨B, 4, none⟩ = some (.int .i64 10)
  c5 : W.cell? ⟨B, 5, none⟩ = some (.slice s.L 10 s.cL)
  c6 : W.cell? ⟨B, 6, none⟩ = some (.slice s.S s.M s.cS)
  sh : SH W ls s
  lt : B < W.heap.size
  old : Below w0.heap.size w0 W
section
variable {w0 : World} {B : Nat} {ls : List (List Wd)} {s : Sf} {W W' : World}
theorem SHB.on (h : SHB w0 B ls s W) (hb : Below W.heap.size W W') : SHB w0 B ls s W' :=
  ⟨(hb.cell (p := ⟨B, 0, none⟩) h.lt).trans h.c0, (hb.cell (p := ⟨B, 1, none⟩) h.lt).trans h.c1, (hb.cell (p := ⟨B, 2, none⟩) h.lt).trans h.c2, (hb.cell (p := ⟨B, 3, none⟩) h.lt).trans h.c3, (hb.cell (p := ⟨B, 4, none⟩) h.lt).trans h.c4, (hb.cell (p := ⟨B, 5, none⟩) h.lt).trans h.c5, (hb.cell (p := ⟨B, 6, none⟩) h.lt).trans h.c6,
    h.sh.on hb, Nat.lt_of_lt_of_le h.lt hb.size, h.old.trans (hb.mono h.old.size)⟩
theorem SHB.drew (h : SHB w0 B ls s W) : SHB w0 B ls s W.drew := h.on (Below.refl _ _).drew
theorem SHB.start (h : SH W ls s) (hb : Below w0.heap.size w0 W) : SHB w0 W.heap.size ls s (W.alloc s.obj) :=
  ⟨by simp, by simp, by simp, by simp, by simp, by simp, by simp, h.on ((Below.refl _ _).alloc (Nat.le_refl _) _), by simp, hb.alloc hb.size _⟩
end

/-- the shelf of nothing -/
abbrev sh0 : Value := .agg #[.slice none 0 0, .slice none 0 0, .slice none 0 0, .int .i64 0, .int .i64 0, .slice none 0 0, .slice none 0 0]
def OpenOK (l : Wd) (w : World) (e : Ending) (w' : World) : Prop := ∃ s : Sf, e = .returned (.tuple #[s.v, .int .i64 0]) ∧ SH w' (linesOf l) s ∧ Below w.heap.size w w'

/-- the cells of the shelf of nothing -/
def shZ (i : Nat) : Value := if i = 3 ∨ i = 4 then .int .i64 0 else .slice none 0 0
abbrev obj0 : Obj := .cells #[.slice none 0 0, .slice none 0 0, .slice none 0 0, .int .i64 0, .int .i64 0, .slice none 0 0, .slice none 0 0] 45
theorem shZ_alloc (w : World) : (w.alloc obj0).rowIs w.heap.size 45 7 shZ :=
  World.rowIs_alloc w #[.slice none 0 0, .slice none 0 0, .slice none 0 0, .int .i64 0, .int .i64 0, .slice none 0 0, .slice none 0 0] 45 shZ (fun i hi => by
    match i, hi with
    | 0, _ => rfl
    | 1, _ => rfl
    | 2, _ => rfl
    | 3, _ => rfl
    | 4, _ => rfl
    | 5, _ => rfl
    | 6, _ => rfl)
def setAll7 (w : World) (b : Nat) (v0 v1 v2 v3 v4 v5 v6 : Value) : World := ((((((w.setCell ⟨b, 0, none⟩ v0).setCell ⟨b, 1, none⟩ v1).setCell ⟨b, 2, none⟩ v2).setCell ⟨b, 3, none⟩ v3).setCell ⟨b, 4, none⟩ v4).setCell ⟨b, 5, none⟩ v5).setCell ⟨b, 6, none⟩ v6
theorem set7 {w : World} {b : Nat} {t : TypeId} {f : Nat → Value} (h : w.rowIs b t 7 f) (v0 v1 v2 v3 v4 v5 v6 : Value) :
    (setAll7 w b v0 v1 v2 v3 v4 v5 v6).cell? ⟨b, 0, none⟩ = some v0 ∧ (setAll7 w b v0 v1 v2 v3 v4 v5 v6).cell? ⟨b, 1, none⟩ = some v1 ∧ (setAll7 w b v0 v1 v2 v3 v4 v5 v6).cell? ⟨b, 2, none⟩ = some v2 ∧ (setAll7 w b v0 v1 v2 v3 v4 v5 v6).cell? ⟨b, 3, none⟩ = some v3 ∧ (setAll7 w b v0 v1 v2 v3 v4 v5 v6).cell? ⟨b, 4, none⟩ = some v4 ∧ (setAll7 w b v0 v1 v2 v3 v4 v5 v6).cell? ⟨b, 5, none⟩ = some v5 ∧ (setAll7 w b v0 v1 v2 v3 v4 v5 v6).cell? ⟨b, 6, none⟩ = some v6 := by
  have H := ((((((h.set 0 v0).set 1 v1).set 2 v2).set 3 v3).set 4 v4).set 5 v5).set 6 v6
  exact ⟨H.cell (by omega), H.cell (by omega), H.cell (by omega), H.cell (by omega), H.cell (by omega), H.cell (by omega), H.cell (by omega)⟩
theorem setAll7_size (w : World) (b : Nat) (v0 v1 v2 v3 v4 v5 v6 : Value) : (setAll7 w b v0 v1 v2 v3 v4 v5 v6).heap.size = w.heap.size := by unfold setAll7; simp
theorem set7a {w : World} {b : Nat} {t : TypeId} {f : Nat → Value} (h : w.rowIs b t 7 f) (o : Obj) (v0 v1 v2 v3 v4 v5 v6 : Value) :
    ((setAll7 w b v0 v1 v2 v3 v4 v5 v6).alloc o).cell? ⟨b, 0, none⟩ = some v0 ∧ ((setAll7 w b v0 v1 v2 v3 v4 v5 v6).alloc o).cell? ⟨b, 1, none⟩ = some v1 ∧ ((setAll7 w b v0 v1 v2 v3 v4 v5 v6).alloc o).cell? ⟨b, 2, none⟩ = some v2 ∧ ((setAll7 w b v0 v1 v2 v3 v4 v5 v6).alloc o).cell? ⟨b, 3, none⟩ = some v3 ∧ ((setAll7 w b v0 v1 v2 v3 v4 v5 v6).alloc o).cell? ⟨b, 4, none⟩ = some v4 ∧ ((setAll7 w b v0 v1 v2 v3 v4 v5 v6).alloc o).cell? ⟨b, 5, none⟩ = some v5 ∧ ((setAll7 w b v0 v1 v2 v3 v4 v5 v6).alloc o).cell? ⟨b, 6, none⟩ = some v6 := by
  obtain ⟨s0, s1, s2, s3, s4, s5, s6⟩ := set7 h v0 v1 v2 v3 v4 v5 v6
  have hl : b < (setAll7 w b v0 v1 v2 v3 v4 v5 v6).heap.size := by rw [setAll7_size]; exact h.lt
  exact ⟨(World.cell?_alloc_lt _ _ _ hl).trans s0, (World.cell?_alloc_lt _ _ _ hl).trans s1, (World.cell?_alloc_lt _ _ _ hl).trans s2, (World.cell?_alloc_lt _ _ _ hl).trans s3, (World.cell?_alloc_lt _ _ _ hl).trans s4, (World.cell?_alloc_lt _ _ _ hl).trans s5, (World.cell?_alloc_lt _ _ _ hl).trans s6⟩
theorem setAll7_old {w0 w : World} {b : Nat} (h : Below w0.heap.size w0 w) (hb : w0.heap.size ≤ b) (v0 v1 v2 v3 v4 v5 v6 : Value) : Below w0.heap.size w0 (setAll7 w b v0 v1 v2 v3 v4 v5 v6) :=
  ((((((h.setCell (p := ⟨b, 0, none⟩) hb v0).setCell (p := ⟨b, 1, none⟩) hb v1).setCell (p := ⟨b, 2, none⟩) hb v2).setCell (p := ⟨b, 3, none⟩) hb v3).setCell (p := ⟨b, 4, none⟩) hb v4).setCell (p := ⟨b, 5, none⟩) hb v5).setCell (p := ⟨b, 6, none⟩) hb v6

theorem row7 {W : World} {B H n : Nat} {A : Option Addr} {t : TypeId} {f : Nat → Value} (hz : W.rowIs B t 7 shZ) (h : Row W H A n f) (hne : 0 < n → ∀ o, f 0 ≠ shZ o) (v0 v1 v2 v3 v4 v5 v6 : Value) : Row (setAll7 W B v0 v1 v2 v3 v4 v5 v6) H A n f := by
  intro hn
  obtain ⟨b, o, rfl, hb, hc⟩ := h hn
  have hbB : B ≠ b := by
    rintro rfl
    have h0 := hc 0 hn
    by_cases ho : o < 7
    · have h1 := hz.cell (i := o) ho
      rw [Nat.add_zero, h1] at h0
      exact hne hn o (Option.some.inj h0).symm
    · obtain ⟨c, hcc, hsz, _⟩ := hz
      rw [Nat.add_zero] at h0
      simp [World.cell?, hcc] at h0
      obtain ⟨h2, _⟩ := Array.getElem?_eq_some_iff.1 h0
      omega
  refine ⟨b, o, rfl, hb, fun i hi => ?_⟩
  unfold setAll7
  have k : ∀ (W : World) (j : Nat) (v : Value), (W.setCell ⟨B, j, none⟩ v).cell? ⟨b, o + i, none⟩ = W.cell? ⟨b, o + i, none⟩ := fun W j v => World.cell?_setCell_far W ⟨B, j, none⟩ ⟨b, o + i, none⟩ v hbB
  rw [k, k, k, k, k, k, k]
  exact hc i hi
theorem book7 {W : World} {B : Nat} {t : TypeId} {A : Option Addr} {n c : Nat} {A2 : Option Addr} {n2 : Nat} {ls : List (List Wd)} (hz : W.rowIs B t 7 shZ) (h : BookAt W A n c A2 n2 (Tx.bw ls) (bt ls)) (v0 v1 v2 v3 v4 v5 v6 : Value) : BookAt (setAll7 W B v0 v1 v2 v3 v4 v5 v6) A n c A2 n2 (Tx.bw ls) (bt ls) := by
  refine ⟨?_, h.wlen, h.wcap, ?_, h.tlen⟩
  · rw [setAll7_size]
    exact row7 hz h.words (fun _ o => by
      unfold shZ
      split <;> (intro he; cases he)) _ _ _ _ _ _ _
  · rw [setAll7_size]
    refine row7 hz h.text (fun _ o => ?_) _ _ _ _ _ _ _
    unfold shZ
    split
    · intro he
      injection he with _ he
      have hl := bt_length ls
      have h1 : 1 ≤ (bt ls).getD 0 0 := by
        by_cases h0 : 0 < (toks ls).length
        · exact (bt_range ls 0 h0).1
        · have h2 := bt_stop ls
          rw [show (toks ls).length = 0 from by omega] at h2
          omega
      omega
    · intro he; cases he
theorem comb7 {W : World} {B base : Nat} {E L S : Option Addr} {cL : Nat} {l : List Int} (h : CmbO base E L S cL l W) (hB : B < base) (v0 v1 v2 v3 v4 v5 v6 : Value) : CmbO base E L S cL l (setAll7 W B v0 v1 v2 v3 v4 v5 v6) :=
  ((((((h.low ⟨B, 0, none⟩ v0 hB).low ⟨B, 1, none⟩ v1 hB).low ⟨B, 2, none⟩ v2 hB).low ⟨B, 3, none⟩ v3 hB).low ⟨B, 4, none⟩ v4 hB).low ⟨B, 5, none⟩ v5 hB).low ⟨B, 6, none⟩ v6 hB

set_option maxRecDepth 100000 in
set_option maxHeartbeats 2000000 in
theorem open_err (l : Wd) (w : World) (hg : GV w) (he : errB l ≠ 0) :
    Calls Tryz.prog 23 #[sv l] w fun e w' => e = .returned (.tuple #[sh0, .int .i64 (errB l)]) ∧ Below w.heap.size w w' := by
  have H1 : Hid (∀ W, GV W → Calls Tryz.prog 52 #[sv l] W fun e w' => e = .returned (.tuple #[bookV none 0 0 none 0 0, .int .i64 (errB l)]) ∧ Below W.heap.size W w') := Lib.hid fun W hW => by
    obtain ⟨m, hm⟩ := hW.ml
    refine (read_any l m W hm).mono ?_
    rintro e w' (⟨h, _⟩ | ⟨_, h⟩)
    · exact absurd h he
    · exact h
  have hb0 := (Below.refl _ w).alloc (Nat.le_refl _) obj0
  have hz0 := shZ_alloc w
  have HG := Lib.hid (hg.on hb0)
  generalize errB l = x at *
  have hne : (x != 0) = true := by simpa using he
  clear he hg
  go_enter Tryz.func23, Tryz.ntmps23
  go_wp2_with fail
  with_reducible refine (H1.out _ HG.out).mono ?_
  rintro e w1 ⟨rfl, hb1⟩
  have hz1 := hz0.of_block (hb1.block _ hz0.lt)
  have hlt1 := hz1.lt
  have hold := hb0.trans (hb1.mono hb0.size)
  clear H1 HG hz0 hb0 hb1
  have r0 := hz1.cell (i := 0) (by omega)
  have r1 := hz1.cell (i := 1) (by omega)
  have r2 := hz1.cell (i := 2) (by omega)
  have r3 := hz1.cell (i := 3) (by omega)
  have r4 := hz1.cell (i := 4) (by omega)
  have r5 := hz1.cell (i := 5) (by omega)
  have r6 := hz1.cell (i := 6) (by omega)
  have f0 := hz1.frozen 0
  have f1 := hz1.frozen 1
  have f2 := hz1.frozen 2
  have f3 := hz1.frozen 3
  have f4 := hz1.frozen 4
  have f5 := hz1.frozen 5
  have f6 := hz1.frozen 6
  go_wp2
  obtain ⟨s0, s1, s2, s3, s4, s5, s6⟩ := set7a hz1 (.cells #[.slice none 0 0, .slice none 0 0] 43) (.slice none 0 0) (.slice none 0 0) (.slice none 0 0) (.int .i64 0) (.int .i64 0) (.slice none 0 0) (.slice none 0 0)
  have hO := setAll7_old hold (Nat.le_refl _) (.slice none 0 0) (.slice none 0 0) (.slice none 0 0) (.int .i64 0) (.int .i64 0) (.slice none 0 0) (.slice none 0 0)
  unfold setAll7 at s0 s1 s2 s3 s4 s5 s6 hO
  exact bodyPost_ret (v := .tuple #[sh0, .int .i64 x]) (by simp [results, Tryz.results23, go_sem, s0, s1, s2, s3, s4, s5, s6]) rfl ⟨rfl, hO.alloc hO.size _⟩

set_option maxRecDepth 100000 in
set_option maxHeartbeats 2000000 in
theorem open_ok (l : Wd) (w : World) (hg : GV w) (he : errB l = 0) : Calls Tryz.prog 23 #[sv l] w (OpenOK l w) := by
  obtain ⟨_, hF, hc⟩ := errB_ok he
  have H1 : Hid (∀ W, GV W → Calls Tryz.prog 52 #[sv l] W (ReadOK l W)) := Lib.hid fun W hW => by
    obtain ⟨m, hm⟩ := hW.ml
    refine (read_any l m W hm).mono ?_
    rintro e w' (⟨_, h⟩ | ⟨h, _⟩)
    · exact h
    · exact absurd he h
  have hb0 := (Below.refl _ w).alloc (Nat.le_refl _) obj0
  have hz0 := shZ_alloc w
  have HG := Lib.hid (hg.on hb0)
  have hlen : (bt (linesOf l)).length ≤ 102 := by have h1 := bt_length (linesOf l); have h2 := toks_length (linesOf l); omega
  have HMk : Hid (∀ (A2 : Option Addr) (c2 : Nat) W, IRow W W.heap.size A2 (bt (linesOf l)) → (bt (linesOf l)).length ≤ c2 → Calls Tryz.prog 19 #[.slice A2 (bt (linesOf l)).length c2] W fun e w' => ∃ E L S cE cL cS, e = .returned (.tuple #[.agg #[.slice E (bt (linesOf l)).length cE, .int .i64 (bt (linesOf l)).length, .int .i64 10, .slice L 10 cL, .slice S (En.most (bt (linesOf l)) + 2) cS], .bool true]) ∧ (bt (linesOf l)).length ≤ cE ∧ 10 ≤ cL ∧ CmbO W.heap.size E L S cL (bt (linesOf l)) w' ∧ Below W.heap.size W w') := Lib.hid fun A2 c2 W hr hcap => by
    have hm := bt_most (linesOf l)
    have hbl := bw_length (linesOf l)
    exact combMake_own A2 c2 (bt (linesOf l)) W hr hcap (bt_good _) (by omega) (by omega)
  have HSg := Lib.hid (bt_sg (linesOf l))
  have HNs : Hid ((bt (linesOf l)).length ≤ 4096) := Lib.hid (by omega)
  have HMs : Hid (En.most (bt (linesOf l)) < 1024) := Lib.hid (by
    have hm := bt_most (linesOf l)
    have hbl := bw_length (linesOf l)
    omega)
  clear he hg
  unfold OpenOK ReadOK at *
  generalize hls : linesOf l = ls at *
  clear hls
  generalize hN : (bt ls).length = N at HMk hlen ⊢
  have HN := Lib.hid hN
  generalize hM : En.most (bt ls) = M at HMk ⊢
  have HM := Lib.hid hM
  clear hN hM
  have HF := Lib.hid hF
  have Hc := Lib.hid hc
  clear hF hc
  go_enter Tryz.func23, Tryz.ntmps23
  go_wp2_with fail
  with_reducible refine (H1.out _ HG.out).mono ?_
  rintro e w1 ⟨A, n, c, A2, n2, c2, rfl, hB, htc, hb1⟩
  obtain rfl : n2 = N := by rw [hB.tlen, HN.out]
  have hz1 := hz0.of_block (hb1.block _ hz0.lt)
  have hb2 := (Below.refl _ w1).alloc (Nat.le_refl _) (.cells #[.slice A n c, .slice A2 n2 c2] 43)
  have hz2 := hz1.of_block (hb2.block _ hz1.lt)
  have hB2 := hB.on hb2
  have hold := (hb0.trans (hb1.mono hb0.size)).alloc (hb0.trans (hb1.mono hb0.size)).size (.cells #[.slice A n c, .slice A2 n2 c2] 43)
  have hlt1 : w.heap.size < w1.heap.size := hz1.lt
  clear H1 HG hz0 hz1 hb0 hb1 hb2 hB
  have HMa := Lib.hid (HMk.out A2 c2 _ hB2.text htc)
  clear HMk
  go_wp2_with fail
  with_reducible refine HMa.out.mono ?_
  rintro e w3 ⟨E, L, S, cE, cL, cS, rfl, hE, hL, hC, hb3⟩
  have k0 : w3.cell? ⟨w1.heap.size, 0, none⟩ = some (.slice A n c) := (hb3.cell (p := ⟨w1.heap.size, 0, none⟩) (by simp)).trans (by simp)
  have k1 : w3.cell? ⟨w1.heap.size, 1, none⟩ = some (.slice A2 n2 c2) := (hb3.cell (p := ⟨w1.heap.size, 1, none⟩) (by simp)).trans (by simp)
  have hs3 : w1.heap.size < w3.heap.size := Nat.lt_of_lt_of_le (by simp) hb3.size
  have hz3 := hz2.of_block (hb3.block _ hz2.lt)
  have hB3 := hB2.on hb3
  have hold3 := hold.trans (hb3.mono hold.size)
  have hlt3 := hz3.lt
  clear HMa hz2 hB2 hold hb3
  have r0 := hz3.cell (i := 0) (by omega)
  have r1 := hz3.cell (i := 1) (by omega)
  have r2 := hz3.cell (i := 2) (by omega)
  have r3 := hz3.cell (i := 3) (by omega)
  have r4 := hz3.cell (i := 4) (by omega)
  have r5 := hz3.cell (i := 5) (by omega)
  have r6 := hz3.cell (i := 6) (by omega)
  have f0 := hz3.frozen 0
  have f1 := hz3.frozen 1
  have f2 := hz3.frozen 2
  have f3 := hz3.frozen 3
  have f4 := hz3.frozen 4
  have f5 := hz3.frozen 5
  have f6 := hz3.frozen 6
  go_wp2
  obtain ⟨s0, s1, s2, s3, s4, s5, s6⟩ := set7a hz3 (.cells #[.slice E n2 cE, .int .i64 n2, .int .i64 10, .slice L 10 cL, .slice S (M + 2) cS] 33) (.slice A n c) (.slice A2 n2 c2) (.slice E n2 cE) (.int .i64 n2) (.int .i64 10) (.slice L 10 cL) (.slice S (M + 2) cS)
  have hO := setAll7_old hold3 (Nat.le_refl _) (.slice A n c) (.slice A2 n2 c2) (.slice E n2 cE) (.int .i64 n2) (.int .i64 10) (.slice L 10 cL) (.slice S (M + 2) cS)
  have hB5 := book7 hz3 hB3 (.slice A n c) (.slice A2 n2 c2) (.slice E n2 cE) (.int .i64 n2) (.int .i64 10) (.slice L 10 cL) (.slice S (M + 2) cS)
  have hC5 := comb7 (B := w.heap.size) hC (by simp; omega) (.slice A n c) (.slice A2 n2 c2) (.slice E n2 cE) (.int .i64 n2) (.int .i64 10) (.slice L 10 cL) (.slice S (M + 2) cS)
  have hbx := (Below.refl _ (setAll7 w3 w.heap.size (.slice A n c) (.slice A2 n2 c2) (.slice E n2 cE) (.int .i64 n2) (.int .i64 10) (.slice L 10 cL) (.slice S (M + 2) cS))).alloc (Nat.le_refl _) (.cells #[.slice E n2 cE, .int .i64 n2, .int .i64 10, .slice L 10 cL, .slice S (M + 2) cS] 33)
  have hB6 := hB5.on hbx
  have hC6 := (hC5.on hbx).cmb HSg.out HNs.out HMs.out
  have hO6 := hO.alloc hO.size (.cells #[.slice E n2 cE, .int .i64 n2, .int .i64 10, .slice L 10 cL, .slice S (M + 2) cS] 33)
  unfold setAll7 at s0 s1 s2 s3 s4 s5 s6 hO6 hB6 hC6
  exact bodyPost_ret (v := .tuple #[Sf.v ⟨A, n, c, A2, n2, c2, E, n2, cE, L, cL, S, M + 2, cS⟩, .int .i64 0]) (by simp [results, Tryz.results23, go_sem, s0, s1, s2, s3, s4, s5, s6]) rfl ⟨⟨A, n, c, A2, n2, c2, E, n2, cE, L, cL, S, M + 2, cS⟩, rfl, ⟨hB6, htc, hC6, HN.out.symm, by rw [HM.out], hE, hL, HF.out, Hc.out⟩, hO6⟩

end Go.Proofs.YtoejenejleocdabGreatDoor
