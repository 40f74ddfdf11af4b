/- All of package guess: how likely each sign is. -/
import Derived.Test.YtffhphcgmgkgbabGreatDoorGk
namespace Go.Proofs.YtffhphcgmgkgbabGreatDoor
open Go.RowKit
attribute [local irreducible] Bt.pop Bt.popF

theorem infoPart : (Tryz.prog.info? 24).map (fun i => (i.zero, i.size, i.bytes)) = some (some (.agg #[.int .i64 0, .int .i64 0]), 2, 16) := by kernel_rfl
theorem run_make_part (n : Nat) (h : n ≤ 1024) (W : World) : (Instr.makeSlice 38 (.int .i64 (n : Int)) (.int .i64 (n : Int))).run Tryz.prog W = .ok (.slice (some ⟨W.heap.size, 0, none⟩) n n) (W.alloc (.cells (madeCells #[.int .i64 0, .int .i64 0] (n * 2)) 24)) := by
  obtain ⟨i, hi, hzz⟩ := Option.map_eq_some_iff.1 infoPart
  simp only [Prod.mk.injEq] at hzz
  obtain ⟨hz, hs, hb⟩ := hzz
  have hr := run_make (P := Tryz.prog) W 38 24 i _ Tryz.underlying38 hi hz .i64 .i64 n n (by omega) (Int.le_refl _) (by rw [hb]; omega) (by omega)
  rw [hs, show (Value.agg #[.int .i64 0, .int .i64 0]).cells = #[.int .i64 0, .int .i64 0] from rfl] at hr
  simpa using hr
/-- the cells of the first k parts, then noughts -/
def ptF (q : Nat → Nat × Nat) (k : Nat) : Nat → Value := fun c => if c / 2 < k then (if c % 2 = 0 then .int .i64 ((q (c / 2)).1 : Nat) else .int .i64 ((q (c / 2)).2 : Nat)) else .int .i64 0
theorem parts_made (W : World) (n : Nat) (q : Nat → Nat × Nat) : (W.alloc (.cells (madeCells #[.int .i64 0, .int .i64 0] (n * 2)) 24)).rowIs W.heap.size 24 (n * 2) (ptF q 0) := by
  have h := World.rowIs_alloc W (madeCells #[.int .i64 0, .int .i64 0] (n * 2)) 24 (ptF q 0) (fun i hi => by
    rw [size_madeCells] at hi
    have h2 : i % 2 = 0 ∨ i % 2 = 1 := by omega
    rcases h2 with h | h <;> simp [madeCells, hi, h, ptF])
  rwa [size_madeCells] at h
theorem parts_set {W : World} {g n : Nat} {q : Nat → Nat × Nat} {k : Nat} (h : W.rowIs g 24 (n * 2) (ptF q k)) : ((W.setCell ⟨g, k * 2, none⟩ (.int .i64 ((q k).1 : Nat))).setCell ⟨g, k * 2 + 1, none⟩ (.int .i64 ((q k).2 : Nat))).rowIs g 24 (n * 2) (ptF q (k + 1)) := by
  refine ((h.set _ _).set _ _).congr (fun i hi => ?_)
  unfold ptF
  by_cases h1 : i = k * 2 + 1
  · subst h1
    rw [if_pos rfl, if_pos (by omega), if_neg (by omega), show (k * 2 + 1) / 2 = k from by omega]
  · rw [if_neg h1]
    by_cases h2 : i = k * 2
    · subst h2
      rw [if_pos rfl, if_pos (by omega), if_pos (by omega), show k * 2 / 2 = k from by omega]
    · rw [if_neg h2]
      by_cases h3 : i / 2 < k
      · have h4 : i / 2 < k + 1 := by omega
        simp only [h3, h4, if_true]
      · have h4 : ¬ i / 2 < k + 1 := by omega
        simp only [h3, h4, if_false]
theorem parts_at {W : World} {g n : Nat} {q : Nat → Nat × Nat} {k j : Nat} (h : W.rowIs g 24 (n * 2) (ptF q k)) (hj : j < n) (hk : j < k) : W.cell? ⟨g, j * 2, none⟩ = some (.int .i64 ((q j).1 : Nat)) ∧ W.cell? ⟨g, j * 2 + 1, none⟩ = some (.int .i64 ((q j).2 : Nat)) := by
  refine ⟨(h.cell (by omega)).trans ?_, (h.cell (by omega)).trans ?_⟩
  · unfold ptF; rw [show j * 2 / 2 = j from by omega, if_pos hk, if_pos (by omega)]
  · unfold ptF; rw [show (j * 2 + 1) / 2 = j from by omega, if_pos hk, if_neg (by omega)]
theorem parts_some {W : World} {g n : Nat} {q : Nat → Nat × Nat} {k j : Nat} (h : W.rowIs g 24 (n * 2) (ptF q k)) (hj : j < n) : ∃ v u, W.cell? ⟨g, j * 2, none⟩ = some v ∧ W.cell? ⟨g, j * 2 + 1, none⟩ = some u := ⟨_, _, h.cell (by omega), h.cell (by omega)⟩

/-- what All hands back -/
def AllIs (w : World) (l b : List Int) (e : Ending) (w' : World) : Prop :=
  ∃ g, e = .returned (.slice (some ⟨g, 0, none⟩) (En.most l) (En.most l)) ∧ w'.rowIs g 24 (En.most l * 2) (ptF (fun i => Pt.lik l b ((i + 1 : Nat) : Int)) (En.most l)) ∧ w.heap.size ≤ g ∧ Below w.heap.size w w'

set_option maxRecDepth 100000 in
set_option maxHeartbeats 2000000 in
theorem all_any (E L S A : Option Addr) (cE cL cS N M c n : Nat) (l s : List Int) (w : World) (h : Cmb w E L S l) (hN : N = l.length) (hM : M = En.most l + 2) (hE : N ≤ cE) (hL : 10 ≤ cL) (hr : IRow w w.heap.size A s) (hn : n = s.length) (hcap : n ≤ c) (hs : n ≤ 17592186044416) (hl : l.length ≤ 150) :
    Calls Tryz.prog 14 #[.agg #[.slice E N cE, .int .i64 N, .int .i64 10, .slice L 10 cL, .slice S M cS], .slice A n c] w (AllIs w l s) := by
  have hsg := h.sg
  have hfit := h.fit
  have hb1 := (Below.refl _ w).alloc (Nat.le_refl _) (.cells #[.slice E N cE, .int .i64 N, .int .i64 10, .slice L 10 cL, .slice S M cS] 33)
  have J : CB w w.heap.size E L S cE cL cS N M l _ := CB.start h hN hM hE hL (Below.refl _ _) 33
  have hrow := hr.on hb1
  have HGr : Hid (∀ W, CB w w.heap.size E L S cE cL cS N M l W → Calls Tryz.prog 24 #[.agg #[.slice E N cE, .int .i64 N, .int .i64 10, .slice L 10 cL, .slice S M cS]] W fun e w' => e = .returned (.int .i64 (En.most l : Nat)) ∧ Below W.heap.size W w') := Lib.hid fun W hW => hW.greatest
  have HSn := Lib.hid (J.seenLast A c n s hn hrow hcap hs)
  have HLk : Hid (∀ A' k' c' i W, i < En.most l → Seen W A' l (Pt.last2 s) k' → Calls Tryz.prog 25 #[.slice A' k' c', .int .i64 ((i : Int) + 1), .int .i64 (En.most l : Nat)] W fun e w' => e = .returned (.agg #[.int .i64 ((Pt.lik l s ((i + 1 : Nat) : Int)).1 : Nat), .int .i64 ((Pt.lik l s ((i + 1 : Nat) : Int)).2 : Nat)]) ∧ Below W.heap.size W w') := Lib.hid fun A' k' c' i W hi hW => by
    rw [Pt.lik_yes l s (i + 1) (by omega) (by omega)]
    have := likely_any A' k' c' (i + 1) l (Pt.last2 s) W hW hsg hl hfit (by omega) (by omega) (by rw [Pt.last2_len]; omega)
    rwa [show ((i + 1 : Nat) : Int) = (i : Int) + 1 from by omega] at this
  have hmk := run_make_part (En.most l) (by omega)
  have HPm : Hid (∀ W : World, (W.alloc (.cells (madeCells #[.int .i64 0, .int .i64 0] (En.most l * 2)) 24)).rowIs W.heap.size 24 (En.most l * 2) (ptF (fun i => Pt.lik l s ((i + 1 : Nat) : Int)) 0)) := Lib.hid fun W => parts_made W (En.most l) _
  unfold AllIs
  generalize hq : (fun i : Nat => Pt.lik l s ((i + 1 : Nat) : Int)) = q at *
  have HQ : Hid (∀ i, Pt.lik l s ((i + 1 : Nat) : Int) = q i) := Lib.hid fun i => by rw [← hq]
  clear h hN hM hr hb1 hsg hl hn hq
  generalize En.most l = m at *
  go_enter Tryz.func14, Tryz.ntmps14
  go_wp2_with fail
  with_reducible refine HSn.out.mono ?_
  rintro e w1 ⟨A1, k1, c1, rfl, S1, hb1⟩
  have J1 := J.on hb1
  clear HSn J hrow hb1
  have c0 := J1.c0
  have c1' := J1.c1
  have c2 := J1.c2
  have c3 := J1.c3
  have c4 := J1.c4
  go_wp2_with fail
  with_reducible refine (HGr.out _ J1).mono ?_
  rintro e w2 ⟨rfl, hb2⟩
  have J2 := J1.on hb2
  have S2 := S1.on hb2
  clear HGr J1 S1 hb2 c0 c1' c2 c3 c4
  have hP0 := HPm.out w2
  have hbP := (Below.refl _ w2).alloc (Nat.le_refl _) (.cells (madeCells #[.int .i64 0, .int .i64 0] (m * 2)) 24)
  have HS2 := Lib.hid S2
  have hold := J2.old
  clear J2 S2 HPm
  go_wp2
  go_loopw [16] (fun t W => ∃ i : Nat, i ≤ m ∧ t = .int .i64 i ∧ W.rowIs w2.heap.size 24 (m * 2) (ptF q i) ∧ Below w2.heap.size w2 W) (fun t _ => m - (intOf t).toNat)
  case atStart => exact ⟨0, Nat.zero_le _, rfl, hP0, hbP⟩
  case round =>
    obtain ⟨i, hi, rfl, hP, hb⟩ := hrel
    clear hP0 hbP hmk
    by_cases hlt : i < m
    · have hlz : (i : Int) < (m : Int) := by omega
      have HLi := Lib.hid (HLk.out A1 k1 c1 i wr hlt (HS2.out.on hb))
      rw [HQ.out] at HLi
      clear HLk
      go_wp2_with fail
      with_reducible refine HLi.out.mono ?_
      rintro e w4 ⟨rfl, hb4⟩
      have hP4 := hP.of_block (hb4.block _ hP.lt)
      have hB4 := hb.trans (hb4.mono hb.size)
      obtain ⟨v0, v1, d0, d1⟩ := parts_some hP4 hlt
      have f0 := hP4.frozen (i * 2)
      have f1 := hP4.frozen (i * 2 + 1)
      have hP5 := parts_set hP4
      have hB5 := (hB4.setCell (p := ⟨w2.heap.size, i * 2, none⟩) (Nat.le_refl _) (.int .i64 ((q i).1 : Nat))).setCell (p := ⟨w2.heap.size, i * 2 + 1, none⟩) (Nat.le_refl _) (.int .i64 ((q i).2 : Nat))
      clear hP4 hB4 hP hb hb4 HLi
      go_wp2
      clear d0 d1 f0 f1
      go_roundw
      case rel => exact ⟨i + 1, by omega, by go_num, hP5, hB5⟩
      case measure => simp [intOf]; omega
    · obtain rfl : i = m := by omega
      clear HLk
      go_wp2
      go_ret
      exact ⟨w2.heap.size, rfl, hP, hold.size, hold.trans (hb.mono hold.size)⟩

end Go.Proofs.YtffhphcgmgkgbabGreatDoor
