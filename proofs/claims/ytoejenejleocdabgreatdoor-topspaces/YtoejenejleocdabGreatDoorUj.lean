/- The walk of the law TopSpaces. -/
import Derived.Test.YtoejenejleocdabGreatDoorUe
import Derived.Test.YtoejenejleocdabGreatDoorRh
namespace Go.Proofs.YtoejenejleocdabGreatDoor
open Go.RowKit Tx
attribute [local irreducible] Bt.pop Bt.popF

theorem dbl_length (l : Wd) : l.length ≤ (dbl l).length ∧ (dbl l).length ≤ 2 * l.length := by
  induction l with
  | nil => exact ⟨Nat.le_refl _, Nat.le_refl _⟩
  | cons c l ih =>
    rw [dbl_cons]
    split <;> (simp only [List.length_append, List.length_cons, List.length_nil]; omega)
theorem errB_dbl (l : Wd) (h : errB (dbl l) = 0) : errB l = 0 := by
  have hl := dbl_length l
  obtain ⟨h1, h2, h3⟩ := errB_ok h
  rw [lines_dbl] at h2 h3
  unfold errB
  rw [if_neg (by omega), if_neg (by rw [h2.all]; simp), if_neg (by omega)]

theorem replace_any (l : Wd) (w : World) (hg : GV w) (hl : l.length ≤ 1048576) :
    Calls Tryz.prog 31 #[sv l, .string ⟨#[32]⟩, .string ⟨#[32, 32]⟩] w fun e w' => e = .returned (sv (dbl l)) ∧ Below w.heap.size w w' := by
  obtain ⟨m, hm⟩ := hg.ml
  have hsz : (⟨l.toArray⟩ : ByteArray).size = l.length := by simp [ByteArray.size]
  have hcnt : Lib.countB ⟨l.toArray⟩ ⟨#[32]⟩ ≤ l.length := by
    show Lib.count _ _ ≤ _
    have : Lib.count l [32] ≤ l.length := by rw [Lib.count_one]; exact List.count_le_length
    exact this
  refine (Tryz.strings_ReplaceAll ⟨l.toArray⟩ ⟨#[32]⟩ ⟨#[32, 32]⟩ m w (by rw [hsz]; omega) hm (by decide) (by
    rw [hsz]
    have : Lib.countB ⟨l.toArray⟩ ⟨#[32]⟩ * (⟨#[32, 32]⟩ : ByteArray).size ≤ l.length * 2 := Nat.mul_le_mul hcnt (by decide)
    omega)).mono ?_
  rintro e w' ⟨rfl, hb⟩
  refine ⟨?_, hb⟩
  have : Lib.replaceAll l [32] [32, 32] = dbl l := replaceAll_dbl l
  show Ending.returned (.string ⟨(Lib.replaceAll l [32] [32, 32]).toArray⟩) = _
  rw [this]

/-- what is guessed, and its error -/
def gA (ls : List (List Wd)) (q : Wd) : Wd := match sgn (Tx.bw ls) q with
  | some t => gsW ls t
  | none => []
def gE (ls : List (List Wd)) (q : Wd) : Int := match sgn (Tx.bw ls) q with
  | some _ => 0
  | none => 3
theorem guessS_any (ls : List (List Wd)) (s : Sf) (q : Wd) (w : World) (h : SH w ls s) (hg : GV w) (hq : q.length ≤ 1000000000) :
    Calls Tryz.prog 30 #[s.v, sv q] w fun e w' => e = .returned (.tuple #[sv (gA ls q), .int .i64 (gE ls q)]) ∧ Below w.heap.size w w' := by
  unfold gA gE
  cases hn : sgn (Tx.bw ls) q with
  | none => exact guessS_no ls s q w h hg hq hn
  | some t => exact guessS_yes ls s q t w h hg hq hn

/-- two shelves in blocks of their own -/
structure S2 (w : World) (ls1 : List (List Wd)) (B1 : Nat) (s1 : Sf) (ls2 : List (List Wd)) (B2 : Nat) (s2 : Sf) (W : World) : Prop where
  a : SHB w B1 ls1 s1 W
  b : SHB w B2 ls2 s2 W
theorem S2.on {w : World} {ls1 : List (List Wd)} {B1 : Nat} {s1 : Sf} {ls2 : List (List Wd)} {B2 : Nat} {s2 : Sf} {W W' : World} (h : S2 w ls1 B1 s1 ls2 B2 s2 W) (hb : Below W.heap.size W W') : S2 w ls1 B1 s1 ls2 B2 s2 W' := ⟨h.a.on hb, h.b.on hb⟩

theorem sv_around (a : Wd) : Value.string (((⟨#[32]⟩ : ByteArray) ++ (⟨a.toArray⟩ : ByteArray)) ++ (⟨#[32]⟩ : ByteArray)) = sv (32 :: (a ++ [32])) := by
  unfold sv
  congr 1

set_option maxRecDepth 100000 in
set_option maxHeartbeats 2000000 in
theorem topSpaces_err2 (l q : Wd) (w : World) (hg : GV w) (hl : l.length ≤ 1048576) (he : errB l ≠ 0) :
    Calls Tryz.prog 8 #[sv l, sv q] w fun e w' => e = .returned (.bool true) ∧ Below w.heap.size w w' := by
  have he2 : errB (dbl l) ≠ 0 := fun h => he (errB_dbl l h)
  have H1 := Lib.hid (open_err l w hg he)
  have H2 : Hid (∀ W, Below w.heap.size w W → Calls Tryz.prog 31 #[sv l, .string ⟨#[32]⟩, .string ⟨#[32, 32]⟩] W fun e w' => e = .returned (sv (dbl l)) ∧ Below w.heap.size w w') := Lib.hid fun W hW => (replace_any l W (hg.on hW) hl).mono fun e w' hh => ⟨hh.1, hW.trans (hh.2.mono hW.size)⟩
  have H3 : Hid (∀ W, Below w.heap.size w W → Calls Tryz.prog 23 #[sv (dbl l)] W fun e w' => e = .returned (.tuple #[sh0, .int .i64 (errB (dbl l))]) ∧ Below w.heap.size w w') := Lib.hid fun W hW => (open_err (dbl l) W (hg.on hW) he2).mono fun e w' hh => ⟨hh.1, hW.trans (hh.2.mono hW.size)⟩
  have H4 : Hid (∀ W, Below w.heap.size w W → Calls Tryz.prog 25 #[] W fun e w' => e = .returned (.bool true) ∧ Below w.heap.size w w') := Lib.hid fun W hW => (alive_any W (hg.on hW)).mono fun e w' hh => ⟨hh.1, hW.trans (hh.2.mono hW.size)⟩
  generalize errB (dbl l) = x2 at *
  generalize errB l = x at *
  generalize dbl l = l2 at *
  have hne : (x != 0) = true := by simpa using he
  clear he hg hl he2
  go_enter Tryz.func8, Tryz.ntmps8
  go_wp2_with fail
  with_reducible refine H1.out.mono ?_
  rintro e w1 ⟨rfl, hb1⟩
  have hb2 := hb1.alloc hb1.size obj0
  clear H1
  go_wp2_with fail
  with_reducible refine (H2.out _ hb2).mono ?_
  rintro e w2 ⟨rfl, hb3⟩
  clear H2
  go_wp2_with fail
  with_reducible refine (H3.out _ hb3).mono ?_
  rintro e w3 ⟨rfl, hb4⟩
  have hb5 := hb4.alloc hb4.size obj0
  clear H3
  go_wp2_with fail
  with_reducible refine (H4.out _ hb5).mono ?_
  rintro e w4 ⟨rfl, hb6⟩
  clear H4
  go_wp2
  go_ret
  exact ⟨rfl, hb6⟩

set_option maxRecDepth 100000 in
set_option maxHeartbeats 2000000 in
theorem topSpaces_err1 (l q : Wd) (w : World) (hg : GV w) (hl : l.length ≤ 1048576) (he : errB l = 0) (he2 : errB (dbl l) ≠ 0) :
    Calls Tryz.prog 8 #[sv l, sv q] w fun e w' => e = .returned (.bool true) ∧ Below w.heap.size w w' := by
  have H1 := Lib.hid (open_ok l w hg he)
  unfold OpenOK at H1
  have H2 : Hid (∀ W, Below w.heap.size w W → Calls Tryz.prog 31 #[sv l, .string ⟨#[32]⟩, .string ⟨#[32, 32]⟩] W fun e w' => e = .returned (sv (dbl l)) ∧ Below w.heap.size w w') := Lib.hid fun W hW => (replace_any l W (hg.on hW) hl).mono fun e w' hh => ⟨hh.1, hW.trans (hh.2.mono hW.size)⟩
  have H3 : Hid (∀ W, Below w.heap.size w W → Calls Tryz.prog 23 #[sv (dbl l)] W fun e w' => e = .returned (.tuple #[sh0, .int .i64 (errB (dbl l))]) ∧ Below w.heap.size w w') := Lib.hid fun W hW => (open_err (dbl l) W (hg.on hW) he2).mono fun e w' hh => ⟨hh.1, hW.trans (hh.2.mono hW.size)⟩
  have H4 : Hid (∀ W, Below w.heap.size w W → Calls Tryz.prog 25 #[] W fun e w' => e = .returned (.bool true) ∧ Below w.heap.size w w') := Lib.hid fun W hW => (alive_any W (hg.on hW)).mono fun e w' hh => ⟨hh.1, hW.trans (hh.2.mono hW.size)⟩
  generalize errB (dbl l) = x2 at *
  generalize dbl l = l2 at *
  have hne : (x2 != 0) = true := by simpa using he2
  clear he hg hl he2
  go_enter Tryz.func8, Tryz.ntmps8
  go_wp2_with fail
  with_reducible refine H1.out.mono ?_
  rintro e w1 ⟨s, rfl, hsh, hb1⟩
  have hb2 := hb1.alloc hb1.size s.obj
  clear H1 hsh
  go_wp2_with fail
  with_reducible refine (H2.out _ hb2).mono ?_
  rintro e w2 ⟨rfl, hb3⟩
  clear H2
  go_wp2_with fail
  with_reducible refine (H3.out _ hb3).mono ?_
  rintro e w3 ⟨rfl, hb4⟩
  have hb5 := hb4.alloc hb4.size obj0
  clear H3
  go_wp2_with fail
  with_reducible refine (H4.out _ hb5).mono ?_
  rintro e w4 ⟨rfl, hb6⟩
  clear H4
  go_wp2
  go_ret
  exact ⟨rfl, hb6⟩

set_option maxRecDepth 100000 in
set_option maxHeartbeats 4000000 in
theorem topSpaces_ok (l q : Wd) (w : World) (hg : GV w) (hl : l.length ≤ 1048576) (hq : q.length ≤ 1048576) (he : errB l = 0) (he2 : errB (dbl l) = 0) :
    Calls Tryz.prog 8 #[sv l, sv q] w fun e w' => e = .returned (.bool true) ∧ Below w.heap.size w w' := by
  have H1 := Lib.hid (open_ok l w hg he)
  unfold OpenOK at H1
  have H2 : Hid (∀ B s W, SHB w B (linesOf l) s W → Calls Tryz.prog 31 #[sv l, .string ⟨#[32]⟩, .string ⟨#[32, 32]⟩] W fun e w' => e = .returned (sv (dbl l)) ∧ SHB w B (linesOf l) s w') := Lib.hid fun B s W hW => (replace_any l W (hg.on hW.old) hl).mono fun e w' hh => ⟨hh.1, hW.on hh.2⟩
  have H3 : Hid (∀ B s W, SHB w B (linesOf l) s W → Calls Tryz.prog 23 #[sv (dbl l)] W fun e w' => ∃ s2 : Sf, e = .returned (.tuple #[s2.v, .int .i64 0]) ∧ SH w' (linesOf l) s2 ∧ SHB w B (linesOf l) s w') := Lib.hid fun B s W hW => by
    refine (open_ok (dbl l) W (hg.on hW.old) he2).mono ?_
    rintro e w' ⟨s2, h1, h2, h3⟩
    rw [lines_dbl] at h2
    exact ⟨s2, h1, h2, hW.on h3⟩
  generalize linesOf l = ls at *
  generalize dbl l = l2 at *
  have hq2 : (32 :: (q ++ [32])).length ≤ 1000000000 := by simp; omega
  have hgr : gA ls (32 :: (q ++ [32])) = gA ls q ∧ gE ls (32 :: (q ++ [32])) = gE ls q ∧ cntW ls (32 :: (q ++ [32])) = cntW ls q := by
    unfold gA gE cntW
    rw [sgn_around]
    exact ⟨rfl, rfl, rfl⟩
  have G1 : Hid (∀ B1 s1 B2 s2 W, S2 w ls B1 s1 ls B2 s2 W → Calls Tryz.prog 30 #[s1.v, sv q] W fun e w' => e = .returned (.tuple #[sv (gA ls q), .int .i64 (gE ls q)]) ∧ S2 w ls B1 s1 ls B2 s2 w') := Lib.hid fun B1 s1 B2 s2 W hW => (guessS_any ls s1 q W hW.a.sh (hg.on hW.a.old) (by omega)).mono fun e w' hh => ⟨hh.1, hW.on hh.2⟩
  have G2 : Hid (∀ B1 s1 B2 s2 W, S2 w ls B1 s1 ls B2 s2 W → Calls Tryz.prog 30 #[s2.v, sv (32 :: (q ++ [32]))] W fun e w' => e = .returned (.tuple #[sv (gA ls q), .int .i64 (gE ls q)]) ∧ S2 w ls B1 s1 ls B2 s2 w') := Lib.hid fun B1 s1 B2 s2 W hW => by
    have := guessS_any ls s2 (32 :: (q ++ [32])) W hW.b.sh (hg.on hW.b.old) hq2
    rw [hgr.1, hgr.2.1] at this
    exact this.mono fun e w' hh => ⟨hh.1, hW.on hh.2⟩
  have K1 : Hid (∀ B1 s1 B2 s2 W, S2 w ls B1 s1 ls B2 s2 W → Calls Tryz.prog 24 #[s1.v, sv q] W fun e w' => e = .returned (.int .i64 (cntW ls q : Nat)) ∧ S2 w ls B1 s1 ls B2 s2 w') := Lib.hid fun B1 s1 B2 s2 W hW => (countS_any ls s1 q W hW.a.sh (hg.on hW.a.old) (by omega)).mono fun e w' hh => ⟨hh.1, hW.on hh.2⟩
  have K2 : Hid (∀ B1 s1 B2 s2 W, S2 w ls B1 s1 ls B2 s2 W → Calls Tryz.prog 24 #[s2.v, sv (32 :: (q ++ [32]))] W fun e w' => e = .returned (.int .i64 (cntW ls q : Nat)) ∧ S2 w ls B1 s1 ls B2 s2 w') := Lib.hid fun B1 s1 B2 s2 W hW => by
    have := countS_any ls s2 (32 :: (q ++ [32])) W hW.b.sh (hg.on hW.b.old) hq2
    rw [hgr.2.2] at this
    exact this.mono fun e w' hh => ⟨hh.1, hW.on hh.2⟩
  have H4 : Hid (∀ B1 s1 B2 s2 W, S2 w ls B1 s1 ls B2 s2 W → Calls Tryz.prog 25 #[] W fun e w' => e = .returned (.bool true) ∧ S2 w ls B1 s1 ls B2 s2 w') := Lib.hid fun B1 s1 B2 s2 W hW => (alive_any W (hg.on hW.a.old)).mono fun e w' hh => ⟨hh.1, hW.on hh.2⟩
  rw [← sv_around] at G2 K2
  clear hg hl he he2 hgr hq2
  generalize gA ls q = ga at *
  generalize gE ls q = ge at *
  generalize cntW ls q = n at *
  go_enter Tryz.func8, Tryz.ntmps8
  go_wp2_with fail
  with_reducible refine H1.out.mono ?_
  rintro e w1 ⟨s1, rfl, hsh, hb1⟩
  have J := SHB.start hsh hb1
  clear H1 hsh hb1
  have H2i := Lib.hid (H2.out _ _ _ J)
  clear H2
  go_wp2_with fail
  with_reducible refine H2i.out.mono ?_
  rintro e w2 ⟨rfl, J2⟩
  clear H2i J
  generalize w1.heap.size = B1 at J2 ⊢
  have H3i := Lib.hid (H3.out _ _ _ J2)
  clear H3
  go_wp2_with fail
  with_reducible refine H3i.out.mono ?_
  rintro e w3 ⟨s2, rfl, hsh2, J3⟩
  have P : S2 w ls B1 s1 ls w3.heap.size s2 (w3.alloc s2.obj) := ⟨J3.on ((Below.refl _ _).alloc (Nat.le_refl _) _), SHB.start hsh2 J3.old⟩
  have hB1 := J3.lt
  obtain ⟨c0, c1, c2, c3, c4, c5, c6⟩ := J3.cells
  clear H3i J2 J3 hsh2
  have G1i := Lib.hid (G1.out _ _ _ _ _ P)
  clear G1
  go_wp2_with fail
  with_reducible refine G1i.out.mono ?_
  rintro e w4 ⟨rfl, P4⟩
  clear G1i P c0 c1 c2 c3 c4 c5 c6
  generalize w3.heap.size = B2 at P4 ⊢
  have G2i := Lib.hid (G2.out _ _ _ _ _ P4)
  clear G2
  obtain ⟨d0, d1, d2, d3, d4, d5, d6⟩ := P4.b.cells
  go_wp2_with fail
  with_reducible refine G2i.out.mono ?_
  rintro e w5 ⟨rfl, P5⟩
  clear G2i P4 d0 d1 d2 d3 d4 d5 d6
  obtain ⟨c0, c1, c2, c3, c4, c5, c6⟩ := P5.a.cells
  obtain ⟨d0, d1, d2, d3, d4, d5, d6⟩ := P5.b.cells
  have P6 := P5.on (Below.refl w5.heap.size w5).drew
  have hnn : ((n : Int) == (n : Int)) = true := by simp
  have hee : (ge == ge) = true := by simp
  clear P5
  have hs1 : (⟨#[32]⟩ : ByteArray).size + (⟨q.toArray⟩ : ByteArray).size ≤ 9223372036854775807 := by
    have h1 : (⟨#[32]⟩ : ByteArray).size = 1 := rfl
    have h2 : (⟨q.toArray⟩ : ByteArray).size = q.length := by simp [ByteArray.size]
    omega
  have hs2 : ((⟨#[32]⟩ : ByteArray) ++ (⟨q.toArray⟩ : ByteArray)).size + (⟨#[32]⟩ : ByteArray).size ≤ 9223372036854775807 := by
    have h1 : (⟨#[32]⟩ : ByteArray).size = 1 := rfl
    have h2 : (⟨q.toArray⟩ : ByteArray).size = q.length := by simp [ByteArray.size]
    rw [ByteArray.size_append]
    omega
  have hc1 : ∀ W : World, (Op.stringOp .add (⟨#[32]⟩ : ByteArray) (⟨q.toArray⟩ : ByteArray)).run Tryz.prog W = .ok (.string ((⟨#[32]⟩ : ByteArray) ++ (⟨q.toArray⟩ : ByteArray))) W := fun W => run_string_add_sum W _ _ hs1
  have hc2 : ∀ W : World, (Op.stringOp .add ((⟨#[32]⟩ : ByteArray) ++ (⟨q.toArray⟩ : ByteArray)) (⟨#[32]⟩ : ByteArray)).run Tryz.prog W = .ok (.string (((⟨#[32]⟩ : ByteArray) ++ (⟨q.toArray⟩ : ByteArray)) ++ (⟨#[32]⟩ : ByteArray))) W := fun W => run_string_add_sum W _ _ hs2
  have hn1 : ¬ (9223372036854775807 < 1 + q.length) := by omega
  have hn2 : ¬ (9223372036854775807 < 1 + q.length + 1) := by omega
  clear hs1 hs2
  go_wp2_with fail
  refine wp_region_mix 22 [(true, 0), (true, 1), (true, 2), (true, 3), (true, 4), (true, 5), (true, 6), (true, 7), (true, 8), (true, 9), (true, 10), (true, 12), (true, 13), (true, 14), (true, 15), (false, 11), (false, 16), (true, 17), (true, 18), (true, 19), (false, 20), (true, 21)] (fun w' => w'.cell? ⟨B1, 0, none⟩ = some (.slice s1.A s1.n s1.c) ∧ w'.cell? ⟨B1, 1, none⟩ = some (.slice s1.A2 s1.n2 s1.c2) ∧ w'.cell? ⟨B1, 2, none⟩ = some (.slice s1.E s1.N s1.cE) ∧ w'.cell? ⟨B1, 3, none⟩ = some (.int .i64 s1.N) ∧ w'.cell? ⟨B1, 4, none⟩ = some (.int .i64 10) ∧ w'.cell? ⟨B1, 5, none⟩ = some (.slice s1.L 10 s1.cL) ∧ w'.cell? ⟨B1, 6, none⟩ = some (.slice s1.S s1.M s1.cS) ∧ w'.cell? ⟨B2, 0, none⟩ = some (.slice s2.A s2.n s2.c) ∧ w'.cell? ⟨B2, 1, none⟩ = some (.slice s2.A2 s2.n2 s2.c2) ∧ w'.cell? ⟨B2, 2, none⟩ = some (.slice s2.E s2.N s2.cE) ∧ w'.cell? ⟨B2, 3, none⟩ = some (.int .i64 s2.N) ∧ w'.cell? ⟨B2, 4, none⟩ = some (.int .i64 10) ∧ w'.cell? ⟨B2, 5, none⟩ = some (.slice s2.L 10 s2.cL) ∧ w'.cell? ⟨B2, 6, none⟩ = some (.slice s2.S s2.M s2.cS)) (by kernel_rfl) (by kernel_rfl) ⟨c0, c1, c2, c3, c4, c5, c6, d0, d1, d2, d3, d4, d5, d6⟩ ?_
  refine wpMix_on (v := ?_) _ at0 rfl ?_ ?_ ?_
  rotate_left 1
  · rintro W ⟨x0, x1, x2, x3, x4, x5, x6, x7, x8, x9, x10, x11, x12, x13⟩
    go_simp
    rfl
  · exact fun _ _ _ h => h
  simp only [Act.put, List.setIfInBounds_toArray, List.set_cons_zero, List.set_cons_succ]
  refine wpMix_on (v := ?_) _ at1 rfl ?_ ?_ ?_
  rotate_left 1
  · rintro W ⟨x0, x1, x2, x3, x4, x5, x6, x7, x8, x9, x10, x11, x12, x13⟩
    go_simp
    rfl
  · exact fun _ _ _ h => h
  simp only [Act.put, List.setIfInBounds_toArray, List.set_cons_zero, List.set_cons_succ]
  refine wpMix_on (v := ?_) _ at2 rfl ?_ ?_ ?_
  rotate_left 1
  · rintro W ⟨x0, x1, x2, x3, x4, x5, x6, x7, x8, x9, x10, x11, x12, x13⟩
    go_simp
    rfl
  · exact fun _ _ _ h => h
  simp only [Act.put, List.setIfInBounds_toArray, List.set_cons_zero, List.set_cons_succ]
  refine wpMix_on (v := ?_) _ at3 rfl ?_ ?_ ?_
  rotate_left 1
  · rintro W ⟨x0, x1, x2, x3, x4, x5, x6, x7, x8, x9, x10, x11, x12, x13⟩
    go_simp
    rfl
  · exact fun _ _ _ h => h
  simp only [Act.put, List.setIfInBounds_toArray, List.set_cons_zero, List.set_cons_succ]
  refine wpMix_on (v := ?_) _ at4 rfl ?_ ?_ ?_
  rotate_left 1
  · rintro W ⟨x0, x1, x2, x3, x4, x5, x6, x7, x8, x9, x10, x11, x12, x13⟩
    go_simp
    rfl
  · exact fun _ _ _ h => h
  simp only [Act.put, List.setIfInBounds_toArray, List.set_cons_zero, List.set_cons_succ]
  refine wpMix_on (v := ?_) _ at5 rfl ?_ ?_ ?_
  rotate_left 1
  · rintro W ⟨x0, x1, x2, x3, x4, x5, x6, x7, x8, x9, x10, x11, x12, x13⟩
    go_simp
    rfl
  · exact fun _ _ _ h => h
  simp only [Act.put, List.setIfInBounds_toArray, List.set_cons_zero, List.set_cons_succ]
  refine wpMix_on (v := ?_) _ at6 rfl ?_ ?_ ?_
  rotate_left 1
  · rintro W ⟨x0, x1, x2, x3, x4, x5, x6, x7, x8, x9, x10, x11, x12, x13⟩
    go_simp
    rfl
  · exact fun _ _ _ h => h
  simp only [Act.put, List.setIfInBounds_toArray, List.set_cons_zero, List.set_cons_succ]
  refine wpMix_on (v := ?_) _ at7 rfl ?_ ?_ ?_
  rotate_left 1
  · rintro W ⟨x0, x1, x2, x3, x4, x5, x6, x7, x8, x9, x10, x11, x12, x13⟩
    go_simp
    rfl
  · exact fun _ _ _ h => h
  simp only [Act.put, List.setIfInBounds_toArray, List.set_cons_zero, List.set_cons_succ]
  refine wpMix_on (v := ?_) _ at8 rfl ?_ ?_ ?_
  rotate_left 1
  · rintro W ⟨x0, x1, x2, x3, x4, x5, x6, x7, x8, x9, x10, x11, x12, x13⟩
    go_simp
    rfl
  · exact fun _ _ _ h => h
  simp only [Act.put, List.setIfInBounds_toArray, List.set_cons_zero, List.set_cons_succ]
  refine wpMix_on (v := ?_) _ at9 rfl ?_ ?_ ?_
  rotate_left 1
  · rintro W ⟨x0, x1, x2, x3, x4, x5, x6, x7, x8, x9, x10, x11, x12, x13⟩
    go_simp
    rfl
  · exact fun _ _ _ h => h
  simp only [Act.put, List.setIfInBounds_toArray, List.set_cons_zero, List.set_cons_succ]
  refine wpMix_on (v := ?_) _ at10 rfl ?_ ?_ ?_
  rotate_left 1
  · rintro W ⟨x0, x1, x2, x3, x4, x5, x6, x7, x8, x9, x10, x11, x12, x13⟩
    go_simp
    rfl
  · exact fun _ _ _ h => h
  simp only [Act.put, List.setIfInBounds_toArray, List.set_cons_zero, List.set_cons_succ]
  refine wpMix_on (v := ?_) _ at12 rfl ?_ ?_ ?_
  rotate_left 1
  · rintro W ⟨x0, x1, x2, x3, x4, x5, x6, x7, x8, x9, x10, x11, x12, x13⟩
    go_simp
    rfl
  · exact fun _ _ _ h => h
  simp only [Act.put, List.setIfInBounds_toArray, List.set_cons_zero, List.set_cons_succ]
  refine wpMix_on (v := ?_) _ at13 rfl ?_ ?_ ?_
  rotate_left 1
  · rintro W ⟨x0, x1, x2, x3, x4, x5, x6, x7, x8, x9, x10, x11, x12, x13⟩
    go_simp
    rfl
  · exact fun _ _ _ h => h
  simp only [Act.put, List.setIfInBounds_toArray, List.set_cons_zero, List.set_cons_succ]
  refine wpMix_on (v := ?_) _ at14 rfl ?_ ?_ ?_
  rotate_left 1
  · rintro W ⟨x0, x1, x2, x3, x4, x5, x6, x7, x8, x9, x10, x11, x12, x13⟩
    go_simp
    rfl
  · exact fun _ _ _ h => h
  simp only [Act.put, List.setIfInBounds_toArray, List.set_cons_zero, List.set_cons_succ]
  refine wpMix_on (v := ?_) _ at15 rfl ?_ ?_ ?_
  rotate_left 1
  · rintro W ⟨x0, x1, x2, x3, x4, x5, x6, x7, x8, x9, x10, x11, x12, x13⟩
    go_simp
    rfl
  · exact fun _ _ _ h => h
  simp only [Act.put, List.setIfInBounds_toArray, List.set_cons_zero, List.set_cons_succ]
  refine wpMix_call _ at11 rfl fun K' hK' => ?_
  go_simp
  go_at_call 24
  refine (K1.out B1 s1 B2 s2 _ P6).mono ?_
  rintro e w7 ⟨rfl, P7⟩
  refine hK'.out _ _ ⟨P7.a.c0, P7.a.c1, P7.a.c2, P7.a.c3, P7.a.c4, P7.a.c5, P7.a.c6, P7.b.c0, P7.b.c1, P7.b.c2, P7.b.c3, P7.b.c4, P7.b.c5, P7.b.c6⟩ ?_
  clear hK' P6 K1 c0 c1 c2 c3 c4 c5 c6 d0 d1 d2 d3 d4 d5 d6
  refine wpMix_call _ at16 rfl fun K' hK' => ?_
  go_simp
  go_at_call 24
  refine (K2.out B1 s1 B2 s2 _ P7).mono ?_
  rintro e w8 ⟨rfl, P8⟩
  refine hK'.out _ _ ⟨P8.a.c0, P8.a.c1, P8.a.c2, P8.a.c3, P8.a.c4, P8.a.c5, P8.a.c6, P8.b.c0, P8.b.c1, P8.b.c2, P8.b.c3, P8.b.c4, P8.b.c5, P8.b.c6⟩ ?_
  clear hK' P7 K2
  refine wpMix_on (v := ?_) _ at17 rfl ?_ ?_ ?_
  rotate_left 1
  · rintro W ⟨x0, x1, x2, x3, x4, x5, x6, x7, x8, x9, x10, x11, x12, x13⟩
    go_simp
    rfl
  · exact fun _ _ _ h => h
  simp only [Act.put, List.setIfInBounds_toArray, List.set_cons_zero, List.set_cons_succ]
  refine wpMix_on (v := ?_) _ at18 rfl ?_ ?_ ?_
  rotate_left 1
  · rintro W ⟨x0, x1, x2, x3, x4, x5, x6, x7, x8, x9, x10, x11, x12, x13⟩
    go_simp
    rfl
  · exact fun _ _ _ h => h
  simp only [Act.put, List.setIfInBounds_toArray, List.set_cons_zero, List.set_cons_succ]
  refine wpMix_on (v := ?_) _ at19 rfl ?_ ?_ ?_
  rotate_left 1
  · rintro W ⟨x0, x1, x2, x3, x4, x5, x6, x7, x8, x9, x10, x11, x12, x13⟩
    go_simp
    rfl
  · exact fun _ _ _ h => h
  simp only [Act.put, List.setIfInBounds_toArray, List.set_cons_zero, List.set_cons_succ]
  refine wpMix_call _ at20 rfl fun K' hK' => ?_
  go_simp
  go_at_call 25
  refine (H4.out B1 s1 B2 s2 _ P8).mono ?_
  rintro e w9 ⟨rfl, P9⟩
  refine hK'.out _ _ ⟨P9.a.c0, P9.a.c1, P9.a.c2, P9.a.c3, P9.a.c4, P9.a.c5, P9.a.c6, P9.b.c0, P9.b.c1, P9.b.c2, P9.b.c3, P9.b.c4, P9.b.c5, P9.b.c6⟩ ?_
  clear hK' P8 H4
  refine wpMix_on (v := ?_) _ at21 rfl ?_ ?_ ?_
  rotate_left 1
  · rintro W ⟨x0, x1, x2, x3, x4, x5, x6, x7, x8, x9, x10, x11, x12, x13⟩
    go_simp
    rfl
  · exact fun _ _ _ h => h
  simp only [Act.put, List.setIfInBounds_toArray, List.set_cons_zero, List.set_cons_succ]
  refine wpMix_nil ?_
  have hold := P9.a.old
  clear P9
  simp only [List.drop_succ_cons, List.drop_zero]
  go_wp2
  go_ret
  exact ⟨by first | rfl | simp, hold⟩

theorem topSpaces_any (s q : ByteArray) (w : World) (hg : GV w) (hs : s.data.toList.length ≤ 1048576) (hq : q.data.toList.length ≤ 1048576) :
    Calls Tryz.prog 8 #[.string s, .string q] w fun e w' => e = .returned (.bool true) ∧ Below w.heap.size w w' := by
  have e1 : Value.string s = sv s.data.toList := by unfold sv; rw [toArray_data]
  have e2 : Value.string q = sv q.data.toList := by unfold sv; rw [toArray_data]
  rw [e1, e2]
  by_cases he : errB s.data.toList = 0
  · by_cases he2 : errB (dbl s.data.toList) = 0
    · exact topSpaces_ok _ _ w hg hs hq he he2
    · exact topSpaces_err1 _ _ w hg hs he he2
  · exact topSpaces_err2 _ _ w hg hs he

end Go.Proofs.YtoejenejleocdabGreatDoor
