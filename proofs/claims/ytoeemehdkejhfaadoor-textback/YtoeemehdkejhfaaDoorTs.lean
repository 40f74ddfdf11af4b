/- The walk of text.Read. -/
import Derived.Test.YtoeemehdkejhfaaDoorTr
namespace Go.Proofs.YtoeemehdkejhfaaDoor
open Go.RowKit Tx

def ReadPost (l : Wd) (w : World) (e : Ending) (w' : World) : Prop :=
  (errB l = 0 ∧ ReadOK l w e w') ∨ (errB l ≠ 0 ∧ e = .returned (.tuple #[bookV none 0 0 none 0 0, .int .i64 (errB l)]) ∧ Below w.heap.size w w')

theorem iv_row {w : World} {base n c : Nat} {e : TypeId} {A : Option Addr} {T : List Int} (h : w.ownsRow base e 1 (.slice A n c) n (iv T)) : n = T.length ∧ IRow w w.heap.size A T := by
  obtain ⟨h1, h2⟩ := own_row 0 h
  subst h1
  exact ⟨rfl, h2⟩

set_option maxHeartbeats 2000000 in
theorem read_small (l : Wd) (m : Int) (w : World) (hl : l.length ≤ 400) (hm : w.cell? ⟨0, 0, none⟩ = some (.int .i64 m)) : Calls Tryd.prog 5 #[sv l] w (ReadPost l w) := by
  have hd : decide ((400 : Int) < (l.length : Int)) = false := by simp; omega
  have htl := trimB_length l
  have hm1 : (w.alloc (.cells #[.slice none 0 0, .slice none 0 0] 25)).cell? ⟨0, 0, none⟩ = some (.int .i64 m) := by
    rw [World.cell?_alloc_lt _ _ _ (World.block_lt_of_cell? _ _ hm)]; exact hm
  have HM := Lib.hid hm1
  have hz : (w.alloc (.cells #[.slice none 0 0, .slice none 0 0] 25)).rowIs w.heap.size 25 2 zeroBook := World.rowIs_alloc w #[.slice none 0 0, .slice none 0 0] 25 zeroBook (fun i hi => by
    match i, hi with
    | 0, _ => rfl
    | 1, _ => rfl)
  have HE := Lib.hid (rfl : errB l = errB l)
  clear hm hm1
  have hfl : (linesOf l).flatten.length ≤ (trimB l).length + (sb (trimB l)).length := flat_le (trimB l)
  have hsl := sb_length (trimB l)
  have hcl : (linesOf l).length = (sb (trimB l)).length := by unfold linesOf cutB; rw [List.length_map]
  have HLn := Lib.hid (show linesOf l = cutB (trimB l) from rfl)
  go_enter Tryd.func5, Tryd.ntmps5
  go_wp2_with fail
  with_reducible refine (trim_any l _ hl).mono ?_
  rintro e w' ⟨rfl, rfl⟩
  go_wp2_with fail
  with_reducible refine (cut_any (trimB l) m _ (by omega) HM.out).mono ?_
  rintro e w1 ⟨A, c, rfl, hL, hb1⟩
  rw [← HLn.out] at hL ⊢
  have hb0 : Below w.heap.size w (w.alloc (.cells #[.slice none 0 0, .slice none 0 0] 25)) := (Below.refl _ w).alloc (Nat.le_refl _) _
  rw [World.size_alloc] at hb1
  have hz1 := hz.of_block (hb1.block w.heap.size (by omega))
  have hold1 := hb0.trans (hb1.mono (by omega))
  have hs1 : w.heap.size + 1 ≤ w1.heap.size := by have := hb1.size; simp at this; omega
  have HE : Hid (errB l = if (linesOf l).flatten.all isWord = false then 1 else if 100 < (linesOf l).flatten.length + (linesOf l).length then 2 else 0) := Lib.hid (by
    unfold errB; rw [if_neg (by omega)])
  have HTK := Lib.hid (toks_length (linesOf l))
  have HBW := Lib.hid (show bw (linesOf l) = Lib.compact ((linesOf l).flatten.mergeSort fun x y => decide (x ≤ y)) from rfl)
  have hlsl : (linesOf l).length ≤ 401 := by omega
  have hfll : (linesOf l).flatten.length ≤ 801 := by omega
  clear hfl hsl hcl htl hd hb1 hb0 hz HM
  have HCC := Lib.hid (concat_any (linesOf l) A (linesOf l).length c w1 hL rfl (by omega) (by omega))
  generalize hF : (linesOf l).flatten = F at *
  generalize hls : linesOf l = ls at *
  have HF := Lib.hid hF
  have Hls := Lib.hid hls
  clear hF hls
  go_wp2_with fail
  with_reducible refine HCC.out.mono ?_
  clear HCC
  rintro e w2 ⟨v, rfl, hown, hb2⟩
  obtain ⟨A3, c3, rfl, _⟩ := own_slice hown
  have HFO := Lib.hid (formed_any F A3 F.length c3 w2 (own_row [] hown).2 rfl (by omega))
  have hL2 := hL.below hb2
  have hz2 := hz1.of_block (hb2.block w.heap.size (by omega))
  have hold2 := hold1.trans (hb2.mono hold1.size)
  have hs2 := hb2.size
  clear hL hz1 hold1 hb2
  go_wp2_with fail
  with_reducible refine HFO.out.mono ?_
  clear HFO
  rintro e w3 ⟨rfl, hb3⟩
  have hown3 := own_below hown hb3
  have hL3 := hL2.below (hb3.mono hs2)
  have hz3 := hz2.of_block (hb3.block w.heap.size (by omega))
  have hold3 := hold2.trans (hb3.mono hold2.size)
  have hs3 := hb3.size
  clear hown hL2 hz2 hold2 hb3
  have z0 : w3.cell? ⟨w.heap.size, 0, none⟩ = some (.slice none 0 0) := hz3.cell (by omega)
  have z1 : w3.cell? ⟨w.heap.size, 1, none⟩ = some (.slice none 0 0) := hz3.cell (by omega)
  have f0 : w3.frozen? ⟨w.heap.size, 0, none⟩ = false := hz3.frozen _
  have f1 : w3.frozen? ⟨w.heap.size, 1, none⟩ = false := hz3.frozen _
  cases hall : F.all isWord
  · have HE1 : Hid (errB l = 1) := Lib.hid (by rw [HE.out, hall]; rfl)
    clear hall HE
    go_wp2
    obtain ⟨s0, s1, s2⟩ := set2 hz3 (.slice none 0 0) (.slice none 0 0)
    refine bodyPost_ret (v := .tuple #[bookV none 0 0 none 0 0, .int .i64 1]) (by simp [results, Tryd.results5, go_sem, s1, s2]) rfl (.inr ⟨by rw [HE1.out]; decide, by rw [HE1.out], (hold3.setCell (by simp) _).setCell (by simp) _⟩)
  · by_cases h100 : 100 < F.length + ls.length
    · have HE1 : Hid (errB l = 2) := Lib.hid (by rw [HE.out, hall, if_neg (by simp), if_pos h100])
      have hd : decide ((100 : Int) < (F.length : Int) + (ls.length : Int)) = true := by simp; omega
      clear hall HE
      go_wp2
      obtain ⟨s0, s1, s2⟩ := set2 hz3 (.slice none 0 0) (.slice none 0 0)
      refine bodyPost_ret (v := .tuple #[bookV none 0 0 none 0 0, .int .i64 2]) (by simp [results, Tryd.results5, go_sem, s1, s2]) rfl (.inr ⟨by rw [HE1.out]; decide, by rw [HE1.out], (hold3.setCell (by simp) _).setCell (by simp) _⟩)
    · have HE1 : Hid (errB l = 0) := Lib.hid (by rw [HE.out, hall, if_neg (by simp), if_neg h100])
      have hd : decide ((100 : Int) < (F.length : Int) + (ls.length : Int)) = false := by simp; omega
      clear hall HE z0 z1 f0 f1
      have HSo := Lib.hid (sort_any F A3 F.length c3 w1.heap.size w3 hown3 (by omega))
      go_wp2_with fail
      with_reducible refine HSo.out.mono ?_
      clear HSo hown3
      rintro e w4 ⟨rfl, hown4, hb4⟩
      have HCo := Lib.hid (compact_any _ A3 F.length c3 w1.heap.size w4 hown4 (by omega))
      rw [← HBW.out] at HCo
      have hz4 := hz3.of_block (hb4.block w.heap.size (by omega))
      have hL4 := hL3.below hb4
      have hold4 := hold3.trans (hb4.mono (by omega))
      have hs4 := hb4.size
      clear hown4 hb4 hz3 hL3 hold3
      go_wp2_with fail
      with_reducible refine HCo.out.mono ?_
      clear HCo
      rintro e w5 ⟨rfl, hown5, hb5⟩
      have hz5 := hz4.of_block (hb5.block w.heap.size (by omega))
      have hL5 := hL4.below hb5
      have hold5 := hold4.trans (hb5.mono (by omega))
      have hs5 := hb5.size
      clear hb5 hz4 hL4 hold4
      have hbl : (bw ls).length ≤ F.length := by rw [← HF.out, ← Hls.out]; exact bw_length _
      have htk : (toks ls).length ≤ F.length + ls.length := HTK.out
      have HNu := Lib.hid (numbers_any (bw ls) ls A3 (bw ls).length c3 A ls.length c w5 (own_row [] hown5).2 rfl (hL5.more (by omega)) rfl (by omega) (by omega) (by omega))
      clear hL5
      have HAI := Lib.hid (bw_allIn ls)
      generalize hWS : bw ls = WS at *
      have HWS := Lib.hid hWS
      clear hWS
      go_wp2_with fail
      with_reducible refine HNu.out.mono ?_
      clear HNu
      rintro e w6 (⟨hin, v6, rfl, hown6, hb6⟩ | ⟨hno, _⟩)
      · have hz6 := hz5.of_block (hb6.block w.heap.size (by omega))
        have hold6 := hold5.trans (hb6.mono hold5.size)
        have hwd6 := own_below hown5 hb6
        have hs6 := hb6.size
        clear hz5 hold5 hown5 hb6 hin
        have hbA := (Below.refl w6.heap.size w6).alloc (Nat.le_refl _) (.cells #[.int .i64 1, .int .i64 0] 3)
        have hwdA := own_below hwd6 hbA
        have hownA := own_below hown6 hbA
        have hzA := hz6.of_block (hbA.block w.heap.size (by omega))
        have holdA := hold6.trans (hbA.mono hold6.size)
        have hrA : Row (w6.alloc (.cells #[.int .i64 1, .int .i64 0] 3)) (w6.alloc (.cells #[.int .i64 1, .int .i64 0] 3)).heap.size (some ⟨w6.heap.size, 0, none⟩) 2 (fun i => .int .i64 (if i = 0 then 1 else 0)) :=
          Row.of_rowIs (World.rowIs_alloc w6 #[.int .i64 1, .int .i64 0] 3 (fun i => .int .i64 (if i = 0 then 1 else 0)) (fun i hi => by
            match i, hi with
            | 0, _ => rfl
            | 1, _ => rfl)) (by simp)
        clear hz6 hold6 hwd6 hown6 hbA
        have hmx : (toks ls).length + 2 ≤ maxLen := by unfold maxLen; omega
        go_wp2_with (at_builtin; refine wpList_app_row _ rfl _ _ 23 rfl w5.heap.size 3 (.int .i64 0) 8 Tryd.underlying23 infoInt rfl _ (toks ls).length (iv (nums (findIn WS) (toks ls))) rfl hownA (some ⟨w6.heap.size, 0, none⟩) 2 2 (fun i => .int .i64 (if i = 0 then 1 else 0)) rfl hrA (fun _ _ => rfl) hmx (by omega) (by simp; omega) ?_; intro v7 w7 hown7 hg7 hv7; obtain ⟨A7, c7, rfl, hc7⟩ := own_slice hown7; have hz7 := hzA.of_block (hg7.block w.heap.size (by simp; omega) (own_above hownA (by omega))); have z0 : w7.cell? ⟨w.heap.size, 0, none⟩ = some (.slice none 0 0) := hz7.cell (by omega); have z1 : w7.cell? ⟨w.heap.size, 1, none⟩ = some (.slice none 0 0) := hz7.cell (by omega); have f0 : w7.frozen? ⟨w.heap.size, 0, none⟩ = false := hz7.frozen _; have f1 : w7.frozen? ⟨w.heap.size, 1, none⟩ = false := hz7.frozen _)
        have hbt : iv (nums (findIn WS) (toks ls)) ++ (List.range 2).map (fun i => Value.int .i64 (if i = 0 then 1 else 0)) = iv (bt ls) := by
          rw [← HWS.out]; simp [iv, bt, List.range_succ]
        rw [hbt] at hown7
        have hwd7 := hwdA.kept hg7 (own_ne hwdA hownA (by decide))
        have hsA : w6.heap.size + 1 = (w6.alloc (.cells #[.int .i64 1, .int .i64 0] 3)).heap.size := by simp
        have hold7 := holdA.grown hg7 (by omega) (fun g hg => by have := (hownA.lt g hg).1; omega)
        obtain ⟨s0, s1, s2⟩ := set2 hz7 (.slice A3 WS.length c3) (.slice A7 ((toks ls).length + 2) c7)
        refine bodyPost_ret (v := .tuple #[bookV A3 WS.length c3 A7 ((toks ls).length + 2) c7, .int .i64 0]) (by simp [results, Tryd.results5, go_sem, s1, s2]) rfl (.inl ⟨HE1.out, A3, WS.length, c3, A7, (toks ls).length + 2, c7, rfl, ?_, (hold7.setCell (by simp) _).setCell (by simp) _⟩)
        have hw9 := ownsRow_setCell_below (ownsRow_setCell_below hwd7 (a := ⟨w.heap.size, 0, none⟩) (by simp; omega) (.slice A3 WS.length c3)) (a := ⟨w.heap.size, 1, none⟩) (by simp; omega) (.slice A7 ((toks ls).length + 2) c7)
        have ht9 := ownsRow_setCell_below (ownsRow_setCell_below hown7 (a := ⟨w.heap.size, 0, none⟩) (by simp; omega) (.slice A3 WS.length c3)) (a := ⟨w.heap.size, 1, none⟩) (by simp; omega) (.slice A7 ((toks ls).length + 2) c7)
        obtain ⟨i1, i2⟩ := iv_row ht9
        obtain ⟨Ax, cx, hx, hxc⟩ := own_slice hw9
        injection hx with _ _ hx3
        rw [Hls.out, HWS.out]
        exact ⟨(own_row [] hw9).2, rfl, by omega, i2, i1⟩
      · exact absurd HAI.out (by rw [hno]; simp)

end Go.Proofs.YtoeemehdkejhfaaDoor
