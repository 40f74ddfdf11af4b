/- What text.Good answers of a book that Read has made. -/
import Derived.Test.YtoeemehdkejhfaaDoorTr
import Derived.Test.YtoeemehdkejhfaaDoorTj
namespace Go.Proofs.YtoeemehdkejhfaaDoor
open Go.RowKit Tx

set_option maxHeartbeats 1000000 in
theorem good_made (ls : List (List Wd)) (hF : Formed ls) (hc : ls.flatten.length + ls.length ≤ 100) (A : Option Addr) (n c : Nat) (A2 : Option Addr) (n2 c2 : Nat) (w : World) (hB : BookAt w A n c A2 n2 (bw ls) (bt ls)) :
    Calls Tryd.prog 11 #[bookV A n c A2 n2 c2] w fun e w' => e = .returned (.bool true) ∧ Below w.heap.size w w' := by
  obtain ⟨hW, hn, hnc, hT, hn2⟩ := hB
  have hbl := bw_length ls
  have htl := toks_length ls
  have hbt := bt_length ls
  have hnb : n ≤ 100 := by omega
  have hn2b : n2 ≤ 102 := by omega
  have hw0 : Below w.heap.size w (w.alloc (.cells #[.slice A n c, .slice A2 n2 c2] 25)) := (Below.refl _ w).alloc (Nat.le_refl _) _
  have H1 := Lib.hid (fun W (h : Below w.heap.size w W) => formed_any (bw ls) A n c W ((hW.below h).more h.size) hn (by omega))
  rw [bw_form hF] at H1
  have H2 := Lib.hid (fun W (h : Below w.heap.size w W) => isRising_true (bw ls) A n c W ((hW.below h).more h.size) hn (by omega) (bw_rising ls))
  have H3 := Lib.hid (fun W (h : Below w.heap.size w W) => isEnded_true (bt ls) A2 n2 c2 W ((hT.below h).more h.size) hn2 (by omega) (by omega)
    (by rw [show n2 - 2 = (toks ls).length from by omega]; exact bt_stop ls) (by rw [show n2 - 1 = (toks ls).length + 1 from by omega]; exact bt_last ls)
    (fun j hj => by
      by_cases h1 : j < (toks ls).length
      · have := bt_range ls j h1; omega
      · obtain rfl : j = (toks ls).length := by omega
        rw [bt_stop]; decide))
  have H4 := Lib.hid (fun W (h : Below w.heap.size w W) => usesJust_true (bt ls) A2 n2 c2 n W ((hT.below h).more h.size) hn2 (by omega) (by omega) (fun i hi => by rw [hn]; exact bt_all ls i (by omega)) (fun j hj => by rw [hn2]; exact bt_seen ls j (by omega)))
  clear hW hT hn hn2 hbl htl hbt
  go_enter Tryd.func11, Tryd.ntmps11
  go_wp2_with fail
  with_reducible refine (H1.out _ hw0).mono ?_
  rintro e w1 ⟨rfl, hb1⟩
  rw [World.size_alloc] at hb1
  have o1 := hw0.trans (hb1.mono (by omega))
  have c0 : w1.cell? ⟨w.heap.size, 0, none⟩ = some (.slice A n c) := (hb1.cell (p := ⟨w.heap.size, 0, none⟩) (by simp)).trans (by simp)
  have c1 : w1.cell? ⟨w.heap.size, 1, none⟩ = some (.slice A2 n2 c2) := (hb1.cell (p := ⟨w.heap.size, 1, none⟩) (by simp)).trans (by simp)
  have hs1 : w.heap.size + 1 ≤ w1.heap.size := by have := hb1.size; simp at this; omega
  clear hb1 hw0 H1
  go_wp2_with fail
  with_reducible refine (H2.out _ o1).mono ?_
  rintro e w2 ⟨rfl, hb2⟩
  have o2 := o1.trans (hb2.mono o1.size)
  have d1 : w2.cell? ⟨w.heap.size, 1, none⟩ = some (.slice A2 n2 c2) := (hb2.cell (p := ⟨w.heap.size, 1, none⟩) (by simp; omega)).trans c1
  have d0 : w2.cell? ⟨w.heap.size, 0, none⟩ = some (.slice A n c) := (hb2.cell (p := ⟨w.heap.size, 0, none⟩) (by simp; omega)).trans c0
  clear hb2 o1 c0 c1 H2
  go_wp2_with fail
  with_reducible refine (H3.out _ o2).mono ?_
  rintro e w3 ⟨rfl, rfl⟩
  clear H3
  go_wp2_with fail
  with_reducible refine (H4.out _ o2).mono ?_
  rintro e w4 ⟨rfl, hb4⟩
  have o4 := o2.trans (hb4.mono o2.size)
  go_wp2
  go_ret
  exact ⟨rfl, o4⟩

end Go.Proofs.YtoeemehdkejhfaaDoor
