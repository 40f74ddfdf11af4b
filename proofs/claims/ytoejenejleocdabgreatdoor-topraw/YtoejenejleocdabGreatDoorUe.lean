/- What the laws of the whole call: alive, words; the shelf of nothing: Count, Guess. -/
import Derived.Test.YtoejenejleocdabGreatDoorUd
import Derived.Test.YtoejenejleocdabGreatDoorJq
import Derived.Laws.OwnMore
namespace Go.Proofs.YtoejenejleocdabGreatDoor
open Go.RowKit Tx
attribute [local irreducible] Bt.pop Bt.popF

theorem sv_app2 (a b : Wd) : Value.string ((⟨a.toArray⟩ : ByteArray) ++ (⟨b.toArray⟩ : ByteArray)) = sv (a ++ b) := by
  unfold sv
  congr 1

set_option maxRecDepth 100000 in
set_option maxHeartbeats 2000000 in
theorem alive_any (w : World) (hg : GV w) : Calls Tryz.prog 25 #[] w fun e w' => e = .returned (.bool true) ∧ Below w.heap.size w w' := by
  have H1 : Hid (Calls Tryz.prog 23 #[.string ⟨#[97, 32, 98, 10, 97, 32, 98]⟩] w fun e w' => ∃ s : Sf, e = .returned (.tuple #[s.v, .int .i64 0]) ∧ SH w' [[[97], [98]], [[97], [98]]] s ∧ Below w.heap.size w w') := Lib.hid (by
    have := open_ok ab2 w hg ab2_err
    unfold OpenOK at this
    rw [ab2_lines] at this
    exact this)
  have H2 : Hid (∀ B s W, SHB w B [[[97], [98]], [[97], [98]]] s W → Calls Tryz.prog 30 #[s.v, .string ⟨#[97]⟩] W fun e w' => e = .returned (.tuple #[.string ⟨#[98]⟩, .int .i64 0]) ∧ SHB w B [[[97], [98]], [[97], [98]]] s w') := Lib.hid fun B s W hW => by
    have := guessS_yes _ s [97] [2] W hW.sh (hg.on hW.old) (by simp) (by rw [ab2_bw]; exact ab2_signs)
    rw [ab2_guess] at this
    exact this.mono fun e w' hh => ⟨hh.1, hW.on hh.2⟩
  have H3 : Hid (∀ B s W, SHB w B [[[97], [98]], [[97], [98]]] s W → Calls Tryz.prog 24 #[s.v, .string ⟨#[97, 32, 98]⟩] W fun e w' => e = .returned (.int .i64 2) ∧ SHB w B [[[97], [98]], [[97], [98]]] s w') := Lib.hid fun B s W hW => by
    have := countS_any _ s [97, 32, 98] W hW.sh (hg.on hW.old) (by simp)
    rw [ab2_count] at this
    exact this.mono fun e w' hh => ⟨hh.1, hW.on hh.2⟩
  clear hg
  generalize ([[[97], [98]], [[97], [98]]] : List (List Wd)) = ls at *
  go_enter Tryz.func25, Tryz.ntmps25
  go_wp2_with fail
  with_reducible refine H1.out.mono ?_
  rintro e w1 ⟨s, rfl, hsh, hb1⟩
  have J := SHB.start hsh hb1
  clear H1 hsh hb1
  have HG := Lib.hid (H2.out _ _ _ J)
  clear H2
  go_wp2_with fail
  with_reducible refine HG.out.mono ?_
  rintro e w2 ⟨rfl, J2⟩
  have HC := Lib.hid (H3.out _ _ _ J2)
  obtain ⟨c0, c1, c2, c3, c4, c5, c6⟩ := J2.cells
  clear HG H3 J
  go_wp2_with fail
  with_reducible refine HC.out.mono ?_
  rintro e w3 ⟨rfl, J3⟩
  have hold := J3.old
  clear HC J2 J3
  go_wp2
  go_ret
  exact ⟨by first | rfl | simp, hold⟩

set_option maxRecDepth 100000 in
set_option maxHeartbeats 1000000 in
/-- a line's end, and the words -/
theorem words_any (ls : List (List Wd)) (A : Option Addr) (n c : Nat) (A2 : Option Addr) (n2 c2 : Nat) (w : World) (h : BookAt w A n c A2 n2 (Tx.bw ls) (bt ls)) (hn : n ≤ 1000) :
    Calls Tryz.prog 28 #[.agg #[.slice A n c, .slice A2 n2 c2]] w fun e w' => ∃ g o cx, e = .returned (.slice (some ⟨g, o, none⟩) (n + 1) cx) ∧ w.heap.size ≤ g ∧ g < w'.heap.size ∧ (∀ i, i < (wordsL ls).length → w'.cell? ⟨g, o + i, none⟩ = some (sv ((wordsL ls).getD i []))) ∧ Below w.heap.size w w' := by
  have hb := ((Below.refl _ w).alloc (Nat.le_refl _) (.cells #[.slice A n c, .slice A2 n2 c2] 43)).alloc (by simp) (.cells #[.string ⟨#[10]⟩] 9)
  have hlen := h.wlen
  have hrow : Row ((w.alloc (.cells #[.slice A n c, .slice A2 n2 c2] 43)).alloc (.cells #[.string ⟨#[10]⟩] 9)) ((w.alloc (.cells #[.slice A n c, .slice A2 n2 c2] 43)).alloc (.cells #[.string ⟨#[10]⟩] 9)).heap.size A n (fun i => sv ((Tx.bw ls).getD i [])) := by
    have := h.words.on hb
    unfold SRow at this
    rw [← hlen] at this
    exact this
  have hown : ((w.alloc (.cells #[.slice A n c, .slice A2 n2 c2] 43)).alloc (.cells #[.string ⟨#[10]⟩] 9)).ownsRow w.heap.size 9 1 (.slice (some ⟨w.heap.size + 1, 0, none⟩) 1 1) 1 [.string ⟨#[10]⟩] := by
    have := World.ownsRow_lit (base := w.heap.size) (e := 9) (size := 1) (w.alloc (.cells #[.slice A n c, .slice A2 n2 c2] 43)) #[.string ⟨#[10]⟩] 1 (by simp) (by unfold maxLen; omega) rfl
    rw [World.size_alloc] at this
    exact this
  have HF : Hid ([Value.string ⟨#[10]⟩] ++ (List.range n).map (fun i => sv ((Tx.bw ls).getD i [])) = (wordsL ls).map sv) := Lib.hid (by
    unfold wordsL
    rw [hlen, List.map_cons, List.singleton_append]
    congr 1
    apply List.ext_getElem
    · simp
    · intro i h1 h2
      simp at h1 h2
      simp [h1])
  clear h hlen
  have hmx : 1 + n ≤ maxLen := by unfold maxLen; omega
  go_enter Tryz.func28, Tryz.ntmps28
  go_wp2_with (at_builtin; refine wpList_app_row _ rfl _ _ 41 rfl w.heap.size 9 (.string ⟨#[]⟩) 16 Tryz.underlying41 infoStr rfl _ 1 [.string ⟨#[10]⟩] rfl hown A n c (fun i => sv ((Tx.bw ls).getD i [])) rfl hrow (fun _ _ => rfl) hmx (by omega) (by simp; omega) ?_; intro v7 w7 hown7 hg7 hv7; obtain ⟨A7, c7, rfl, hc7⟩ := own_slice hown7)
  rw [HF.out] at hown7
  go_ret
  have hO := hb.grown hg7 hb.size (fun g hg => (hown.lt g hg).1)
  obtain ⟨h1, h2⟩ := own_row [] hown7
  obtain ⟨b, o, rfl, hlt, hcc⟩ := h2 (by omega)
  refine ⟨b, o, c7, by rw [Nat.add_comm]; rfl, (hown7.lt b rfl).1, hlt, fun i hi => hcc i (by omega), hO⟩

/-- the index of nothing -/
theorem rc_zero (w : World) : RC w none none none 0 0 0 0 0 0 :=
  ⟨⟨fun _ => 0, fun h => absurd h (by omega)⟩, RL.no0 w none, ⟨fun _ => 0, fun h => absurd h (by omega)⟩, by unfold Ir; omega, by omega, by omega, by omega, by omega⟩

set_option maxRecDepth 100000 in
set_option maxHeartbeats 1000000 in
theorem countS_zero (q : Wd) (w : World) (hg : GV w) (hq : q.length ≤ 1000000000) :
    Calls Tryz.prog 24 #[sh0, sv q] w fun e w' => e = .returned (.int .i64 0) ∧ Below w.heap.size w w' := by
  have hb0 := (Below.refl _ w).alloc (Nat.le_refl _) obj0
  have HS := Lib.hid (signs_any [] q none 0 0 none 0 0 (w.alloc obj0) (hg.on hb0) (fun h => absurd h (by simp)) rfl (by omega) hq)
  have HL : Hid (∀ t, sgn [] q = some t → t.length ≤ 17592186044416) := Lib.hid fun t ht => by have := sgn_length ht; omega
  have HC : Hid (∀ A c t W, IRow W W.heap.size A t → t.length ≤ c → t.length ≤ 17592186044416 → Calls Tryz.prog 53 #[.agg #[.slice none 0 0, .int .i64 0, .int .i64 0, .slice none 0 0, .slice none 0 0], .slice A t.length c] W fun e w' => e = .returned (.int .i64 0) ∧ Below W.heap.size W w') := Lib.hid fun A c t W hr hc hl =>
    combCount_zero none none none A 0 0 0 0 0 0 c 0 0 t W (rc_zero W) hr hc hl rfl rfl
  clear hg hq
  generalize sgn [] q = o at *
  go_enter Tryz.func24, Tryz.ntmps24
  go_wp2_with fail
  with_reducible refine HS.out.mono ?_
  clear HS
  have hz := shZ_alloc w
  cases o with
  | none =>
    rintro e w1 ⟨rfl, hb1⟩
    have hold := hb0.trans (hb1.mono hb0.size)
    clear HL HC hz
    go_wp2
    go_ret
    exact ⟨rfl, hold⟩
  | some t =>
    rintro e w1 ⟨A, c, rfl, hc, hr, hb1⟩
    have HCt := Lib.hid (HC.out A c t w1 hr hc (HL.out t rfl))
    have hz1 := hz.of_block (hb1.block _ hz.lt)
    have c2 : w1.cell? ⟨w.heap.size, 2, none⟩ = some (.slice none 0 0) := hz1.cell (i := 2) (by omega)
    have c3 : w1.cell? ⟨w.heap.size, 3, none⟩ = some (.int .i64 0) := hz1.cell (i := 3) (by omega)
    have c4 : w1.cell? ⟨w.heap.size, 4, none⟩ = some (.int .i64 0) := hz1.cell (i := 4) (by omega)
    have c5 : w1.cell? ⟨w.heap.size, 5, none⟩ = some (.slice none 0 0) := hz1.cell (i := 5) (by omega)
    have c6 : w1.cell? ⟨w.heap.size, 6, none⟩ = some (.slice none 0 0) := hz1.cell (i := 6) (by omega)
    have hold := hb0.trans (hb1.mono hb0.size)
    clear HL HC hr hz hz1
    go_wp2_with fail
    with_reducible refine HCt.out.mono ?_
    rintro e w2 ⟨rfl, hb2⟩
    have hold2 := hold.trans (hb2.mono hold.size)
    clear HCt
    go_wp2
    go_ret
    exact ⟨rfl, hold2⟩

set_option maxRecDepth 100000 in
set_option maxHeartbeats 1000000 in
theorem guessS_zero (q : Wd) (w : World) (hg : GV w) (hq : q.length ≤ 1000000000) :
    Calls Tryz.prog 30 #[sh0, sv q] w fun e w' => e = .returned (.tuple #[sv [], .int .i64 3]) ∧ Below w.heap.size w w' := by
  have hb0 := (Below.refl _ w).alloc (Nat.le_refl _) obj0
  have HS := Lib.hid (signs_any [] q none 0 0 none 0 0 (w.alloc obj0) (hg.on hb0) (fun h => absurd h (by simp)) rfl (by omega) hq)
  clear hg hq
  generalize sgn [] q = o at *
  go_enter Tryz.func30, Tryz.ntmps30
  go_wp2_with fail
  with_reducible refine HS.out.mono ?_
  clear HS
  have hz := shZ_alloc w
  cases o with
  | none =>
    rintro e w1 ⟨rfl, hb1⟩
    have hold := hb0.trans (hb1.mono hb0.size)
    clear hz
    go_wp2
    go_ret2
    exact ⟨rfl, hold⟩
  | some t =>
    rintro e w1 ⟨A, c, rfl, hc, hr, hb1⟩
    have hz1 := hz.of_block (hb1.block _ hz.lt)
    have c1 : w1.cell? ⟨w.heap.size, 1, none⟩ = some (.slice none 0 0) := hz1.cell (i := 1) (by omega)
    have hold := hb0.trans (hb1.mono hb0.size)
    clear hr hz hz1
    go_wp2
    go_ret2
    exact ⟨rfl, hold⟩

end Go.Proofs.YtoejenejleocdabGreatDoor
