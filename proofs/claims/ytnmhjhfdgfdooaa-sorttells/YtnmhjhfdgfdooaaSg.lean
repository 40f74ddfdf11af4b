/- sort.sortBy: the row put in order, and the rank of each place. -/
import Derived.Test.YtnmhjhfdgfdooaaSf
namespace Go.Proofs.Ytnmhjhfdgfdooaa
open Go.RowKit

theorem infoInt' : (Try.prog.info? 3).map (fun i => (i.zero, i.size, i.bytes)) = some (some (.int .i64 0), 1, 8) := by kernel_rfl

/-- a row that has all places below n -/
theorem perm_lt {es : List Nat} {n : Nat} (h : es.Perm (List.range n)) {i : Nat} (hi : i < n) : es.getD i 0 < n := by
  have hl : es.length = n := by have := h.length_eq; simpa using this
  rw [List.getD_eq_getElem?_getD, List.getElem?_eq_getElem (by omega)]
  simpa using h.subset (List.getElem_mem (by omega))
theorem perm_inj {es : List Nat} {n : Nat} (h : es.Perm (List.range n)) {i j : Nat} (hi : i < n) (hj : j < n) (e : es.getD i 0 = es.getD j 0) : i = j := by
  have hl : es.length = n := by have := h.length_eq; simpa using this
  have hn : es.Nodup := h.symm.nodup List.nodup_range
  simp only [List.getD_eq_getElem?_getD, List.getElem?_eq_getElem (show i < es.length by omega), List.getElem?_eq_getElem (show j < es.length by omega), Option.getD_some] at e
  rcases Nat.lt_trichotomy i j with h1 | h1 | h1
  · exact absurd e (List.pairwise_iff_getElem.1 hn i j (by omega) (by omega) h1)
  · exact h1
  · exact absurd e.symm (List.pairwise_iff_getElem.1 hn j i (by omega) (by omega) h1)
theorem perm_onto {es : List Nat} {n : Nat} (h : es.Perm (List.range n)) {a : Nat} (ha : a < n) : ∃ i, i < n ∧ es.getD i 0 = a := by
  have hl : es.length = n := by have := h.length_eq; simpa using this
  obtain ⟨i, hi, he⟩ := List.getElem_of_mem (h.symm.subset (by simpa using ha) : a ∈ es)
  refine ⟨i, by omega, ?_⟩
  rw [List.getD_eq_getElem?_getD, List.getElem?_eq_getElem hi]; exact he

/-- ranks so far: the first k places of the row have theirs -/
def RankUp (K : Nat → List Int) (E : Nat → Nat) (n k : Nat) (r : Nat → Nat) : Prop := ∀ i, i < k → i < n → r (E i) = En.rk K E i

set_option maxHeartbeats 2000000 in
theorem sortBy_any (F : Nat) (cb : Array Value) (K : Nat → List Int) (n g c : Nat) (es : List Nat) (w : World) (eg : ∀ args w, (callFunc F args).run Try.prog w = .ok (.enter F args) w)
    (hC : Cmps F cb K n g w) (hr : w.rowIs g 3 n (places es)) (hp : es.Perm (List.range n)) (hn : n ≤ 17592186044416) :
    Calls Try.prog 41 #[.slice (some ⟨g, 0, none⟩) n c, .func (.func F) #[] cb] w fun e w' =>
      ∃ (g' : Nat) (es' : List Nat) (r : Nat → Nat), e = .returned (.slice (some ⟨g', 0, none⟩) n n) ∧ w.heap.size ≤ g' ∧ es'.Perm (List.range n) ∧ es'.Pairwise (fun a b => En.cl (K a) (K b) ≤ 0) ∧ En.Ranks K n r ∧
        w'.rowIs g 3 n (places es') ∧ w'.rowIs g' 3 n (fun i => .int .i64 (r i : Nat)) ∧ w.grownBy w' (some g) := by
  have hmk := run_make_row' (P := Try.prog) 25 3 (.int .i64 0) 8 Try.underlying25 infoInt' rfl .i64 .i64 n (by omega) (by omega)
  have HS := Lib.hid (sortFunc_any F cb K n g c es w eg hC hr (by have := hp.length_eq; simpa using this) (fun e he => by simpa using hp.subset he) (by omega))
  go_enter Try.func41, Try.ntmps41
  go_wp2_with fail
  refine HS.out.mono ?_
  rintro e w1 ⟨rfl, es', hp1, hs1, hr1, hg1⟩
  have hp' := hp1.trans hp
  clear HS hr hp1
  have hlt : ∀ i, i < n → es'.getD i 0 < n := fun i hi => perm_lt hp' hi
  have hinj : ∀ i j, i < n → j < n → es'.getD i 0 = es'.getD j 0 → i = j := fun i j hi hj e => perm_inj hp' hi hj e
  have hsrt : ∀ i j, i < j → j < n → En.cl (K (es'.getD i 0)) (K (es'.getD j 0)) ≤ 0 := fun i j hij hj => by
    have hl : es'.length = n := by have := hp'.length_eq; simpa using this
    simp only [List.getD_eq_getElem?_getD, List.getElem?_eq_getElem (show i < es'.length by omega), List.getElem?_eq_getElem (show j < es'.length by omega), Option.getD_some]
    exact List.pairwise_iff_getElem.1 hs1 i j (by omega) (by omega) hij
  have hr1' : w1.rowIs g 3 n (fun i => .int .i64 ((es'.getD i 0 : Nat) : Int)) := hr1
  obtain ⟨E, hE⟩ : ∃ E : Nat → Nat, E = fun i => es'.getD i 0 := ⟨_, rfl⟩
  have HF := Lib.hid (show ∀ (w' : World) (r : Nat → Nat), RankUp K E n n r → w'.rowIs g 3 n (fun i => .int .i64 ((E i : Nat) : Int)) → w'.rowIs w1.heap.size 3 n (fun i => .int .i64 (r i : Nat)) → w1.grownBy w' none →
      ∃ (g' : Nat) (es' : List Nat) (r : Nat → Nat), Ending.returned (.slice (some ⟨w1.heap.size, 0, none⟩) n n) = .returned (.slice (some ⟨g', 0, none⟩) n n) ∧ w.heap.size ≤ g' ∧ es'.Perm (List.range n) ∧ es'.Pairwise (fun a b => En.cl (K a) (K b) ≤ 0) ∧ En.Ranks K n r ∧
        w'.rowIs g 3 n (places es') ∧ w'.rowIs g' 3 n (fun i => .int .i64 (r i : Nat)) ∧ w.grownBy w' (some g) from fun w' r hR h1 h2 h3 => by
    refine ⟨w1.heap.size, es', r, rfl, hg1.size, hp', hs1, ?_, by rw [hE] at h1; exact h1, h2, growBy_trans hg1 ⟨h3.os, h3.tape, h3.output, h3.size, fun k hk _ => h3.block k hk (by simp)⟩⟩
    intro a b ha hb
    obtain ⟨i, hi, rfl⟩ := perm_onto hp' ha
    obtain ⟨j, hj, rfl⟩ := perm_onto hp' hb
    have e1 : r (es'.getD i 0) = En.rk K E i := by have := hR i hi hi; rw [hE] at this ⊢; exact this
    have e2 : r (es'.getD j 0) = En.rk K E j := by have := hR j hj hj; rw [hE] at this ⊢; exact this
    rw [e1, e2]
    have := En.rk_ci K E n (by rw [hE]; exact hsrt) i j hi hj
    rw [hE] at this ⊢
    exact this)
  have hEt : ∀ i, es'.getD i 0 = E i := fun i => by rw [hE]
  simp only [hEt] at hlt hinj hr1' hsrt
  have Hlt := Lib.hid hlt
  have Hinj := Lib.hid hinj
  have HC : Hid (∀ W, w1.grownBy W none → ∀ x y : Nat, x < n → y < n → Calls Try.prog F (#[.int .i64 x, .int .i64 y] ++ cb) W fun e w' => e = .returned (.int .i64 (En.cl (K x) (K y))) ∧ ∃ q os, w' = Sort.grow (W.drewN q) os) :=
    Lib.hid fun W hW => hC W (growBy_trans hg1 ⟨hW.os, hW.tape, hW.output, hW.size, fun k hk _ => hW.block k hk (by simp)⟩)
  have hglt := hr1'.lt
  clear hlt hinj hsrt hr1 hp hp' hs1 hC hE hEt hg1
  have hrow := World.rowIs_made w1 (.int .i64 0) n 3
  have hb0 : w1.grownBy (w1.alloc (.cells (madeCells #[.int .i64 0] n) 3)) none := World.grownBy_alloc _ _ _
  have hrg := hr1'.alloc (.cells (madeCells #[.int .i64 0] n) 3)
  go_wp2
  go_loopw [6] (fun s wr => ∃ (k : Nat) (r : Nat → Nat), 1 ≤ k ∧ k ≤ n + 1 ∧ s = .int .i64 k ∧ Hid (RankUp K E n k r) ∧ wr.rowIs g 3 n (fun i => .int .i64 ((E i : Nat) : Int)) ∧ wr.rowIs w1.heap.size 3 n (fun i => .int .i64 (r i : Nat)) ∧ w1.grownBy wr none)
    (fun s _ => n + 1 - (intOf s).toNat)
  case atStart =>
    refine ⟨1, fun _ => 0, Nat.le_refl _, by omega, rfl, (?_ : RankUp K E n 1 fun _ => 0), hrg, hrow, hb0⟩
    intro i h1 _
    have : i = 0 := by omega
    subst this; rfl
  case round =>
    obtain ⟨k, r, hk1, hk2, rfl, I, hrE, hrR, hgb⟩ := hrel
    clear hmk hrow hb0 hrg hr1'
    by_cases hlt : k < n
    · obtain ⟨t, rfl⟩ : ∃ t, k = t + 1 := ⟨k - 1, by omega⟩
      have hl0 := Hlt.out t (by omega)
      have hl1 := Hlt.out (t + 1) hlt
      have c0 := hrE.cell (show t < n by omega)
      have c1 := hrE.cell hlt
      have d0 := hrR.cell hl0
      have d1 := hrR.cell hl1
      have fz := hrR.frozen (E (t + 1))
      have hrt := I.out t (by omega) (by omega)
      have hrk := En.rk_le K E t
      have hne : g ≠ w1.heap.size := by omega
      have HW6 := Lib.hid (show ∀ v : Int, (wr.setCell ⟨w1.heap.size, E (t + 1), none⟩ (.int .i64 v)).rowIs g 3 n (fun i => .int .i64 ((E i : Nat) : Int)) ∧ w1.grownBy (wr.setCell ⟨w1.heap.size, E (t + 1), none⟩ (.int .i64 v)) none from
        fun v => ⟨hrE.setOther hne _, ⟨hgb.os, hgb.tape, hgb.output, by simpa using hgb.size, fun i hi hn => by
          rw [Deep.blk_setCell_other _ _ _ _ (by simp; omega)]; exact hgb.block i hi hn⟩⟩)
      have HR6 := Lib.hid (hrR.set (E (t + 1)) (.int .i64 (r (E t) : Nat)))
      have HCx := Lib.hid (fun W hW => HC.out W hW (E t) (E (t + 1)) hl0 hl1)
      have Hst : Hid (En.rk K E (t + 1) = En.rk K E t + if En.cl (K (E t)) (K (E (t + 1))) = 0 then 0 else 1) := Lib.hid rfl
      generalize En.cl (K (E t)) (K (E (t + 1))) = v at HCx Hst
      have HI := Lib.hid hrt
      have Hinj' := Lib.hid (fun i hi => Hinj.out i (t + 1) hi hlt)
      have hrt2 : r (E t) ≤ t := by omega
      clear hrt hrk HC Hinj Hlt
      generalize hp0 : E t = p0 at *
      generalize hp1 : E (t + 1) = p1 at *
      generalize hv0 : r p0 = v0 at *
      go_wp2
      go_region
      all_goals
        obtain ⟨W6, hW6⟩ : ∃ W6, W6 = (wr.setCell ⟨w1.heap.size, p1, none⟩ (.int .i64 v0)).drew := ⟨_, rfl⟩
        have r6 : W6.rowIs g 3 n (fun i => .int .i64 ((E i : Nat) : Int)) := by rw [hW6]; exact (HW6.out v0).1.drew
        have q6 : W6.rowIs w1.heap.size 3 n (fun j => if j = p1 then Value.int .i64 v0 else Value.int .i64 (r j : Nat)) := by rw [hW6]; exact HR6.out.drew
        have g6 : w1.grownBy W6 none := by rw [hW6]; exact ⟨(HW6.out v0).2.os, (HW6.out v0).2.tape, (HW6.out v0).2.output, (HW6.out v0).2.size, (HW6.out v0).2.block⟩
        have q6' := q6.congr (g := fun j => Value.int .i64 ((if j = p1 then v0 else r j : Nat) : Int)) (fun i _ => by by_cases h : i = p1 <;> simp [h])
        rw [← hW6]
        clear hW6 HW6 HR6 hrE hrR hgb c0 c1 d0 d1 fz q6
        have c0 := r6.cell (show t < n by omega)
        have c1 := r6.cell hlt
        rw [hp0] at c0
        rw [hp1] at c1
        have hz0 : (t : Int) < (n : Int) := by omega
        have hz1 : (t : Int) + 1 < (n : Int) := by omega
        have hz2 : (0 : Int) ≤ (t : Int) := by omega
        have hz3 : IntKind.i64.wrap (((t + 1 : Nat) : Int) - 1) = (t : Int) := by simp [IntKind.wrap, IntKind.bits, IntKind.signed]; omega
        have hz4 : (((t + 1 : Nat) : Int)) < (n : Int) := by omega
        have hz5 : (0 : Int) ≤ (t : Int) + 1 := by omega
        have hz6 : IntKind.i64.wrap (t : Int) = (t : Int) := by simp [IntKind.wrap, IntKind.bits, IntKind.signed]; omega
        have hz7 : t < n := by omega
        by_cases hv : v = 0
        · subst hv
          have I2 : Hid (RankUp K E n (t + 2) (fun j => if j = p1 then v0 else r j)) := Lib.hid (fun i hi hin => by
            show (if E i = p1 then v0 else r (E i)) = _
            by_cases e : E i = p1
            · rw [if_pos e]
              have := Hinj'.out i hin e
              subst this
              rw [Hst.out, if_pos rfl, HI.out]; rfl
            · rw [if_neg e]
              have : i ≠ t + 1 := fun h => e (by rw [h]; exact hp1)
              exact I.out i (by omega) hin)
          have HK := Lib.hid (show ∀ q os, (Sort.grow (W6.drewN q) os).cell? ⟨g, t, none⟩ = some (.int .i64 p0) ∧ (Sort.grow (W6.drewN q) os).cell? ⟨g, t + 1, none⟩ = some (.int .i64 p1) from fun q os =>
            ⟨(Sort.cell?_grow (W6.drewN q) os _ r6.lt).trans c0, (Sort.cell?_grow (W6.drewN q) os _ r6.lt).trans c1⟩)
          go_wp2
          go_region_held3 (fun w' => w'.cell? ⟨g, t, none⟩ = some (.int .i64 p0) ∧ w'.cell? ⟨g, t + 1, none⟩ = some (.int .i64 p1)) (first | exact ⟨c0, c1⟩ | exact HK.out _ _ | go_keep)
            (first
              | ((with_reducible refine (HCx.out _ ?_).mono ?_); (exact ⟨g6.os, g6.tape, g6.output, g6.size, g6.block⟩); rintro e w7 ⟨rfl, q, os, rfl⟩))
          all_goals
            obtain ⟨W7, hW7⟩ : ∃ W7, W7 = Sort.grow (W6.drewN (1 + q)) os := ⟨_, rfl⟩
            have r7 : W7.rowIs g 3 n (fun i => .int .i64 ((E i : Nat) : Int)) := by rw [hW7]; exact rowIs_grow r6 _ _
            have q7 : W7.rowIs w1.heap.size 3 n (fun j => Value.int .i64 ((if j = p1 then v0 else r j : Nat) : Int)) := by rw [hW7]; exact rowIs_grow q6' _ _
            have g7 : w1.grownBy W7 none := by rw [hW7]; exact growBy_trans g6 (growBy_grow _ _ _ _)
            rw [← hW7]
            clear hW7 r6 q6' g6 c0 c1 HK HCx
            go_wp2
            go_roundw
            case rel => exact ⟨t + 2, _, by omega, by omega, by go_num, I2, r7, q7, g7⟩
            case measure => simp [intOf]; omega
        · have hvv : (v != 0) = true := by simp [hv]
          have I2 : Hid (RankUp K E n (t + 2) (fun j => if j = p1 then v0 + 1 else (if j = p1 then v0 else r j))) := Lib.hid (fun i hi hin => by
            show (if E i = p1 then v0 + 1 else (if E i = p1 then v0 else r (E i))) = _
            by_cases e : E i = p1
            · rw [if_pos e]
              have := Hinj'.out i hin e
              subst this
              rw [Hst.out, if_neg hv, HI.out]
            · rw [if_neg e, if_neg e]
              have : i ≠ t + 1 := fun h => e (by rw [h]; exact hp1)
              exact I.out i (by omega) hin)
          clear hv
          have HK := Lib.hid (show ∀ q os, (Sort.grow (W6.drewN q) os).cell? ⟨g, t, none⟩ = some (.int .i64 p0) ∧ (Sort.grow (W6.drewN q) os).cell? ⟨g, t + 1, none⟩ = some (.int .i64 p1) from fun q os =>
            ⟨(Sort.cell?_grow (W6.drewN q) os _ r6.lt).trans c0, (Sort.cell?_grow (W6.drewN q) os _ r6.lt).trans c1⟩)
          go_wp2
          go_region_held3 (fun w' => w'.cell? ⟨g, t, none⟩ = some (.int .i64 p0) ∧ w'.cell? ⟨g, t + 1, none⟩ = some (.int .i64 p1)) (first | exact ⟨c0, c1⟩ | exact HK.out _ _ | go_keep)
            (first
              | ((with_reducible refine (HCx.out _ ?_).mono ?_); (exact ⟨g6.os, g6.tape, g6.output, g6.size, g6.block⟩); rintro e w7 ⟨rfl, q, os, rfl⟩))
          all_goals
            obtain ⟨W7, hW7⟩ : ∃ W7, W7 = Sort.grow (W6.drewN (1 + q)) os := ⟨_, rfl⟩
            have r7 : W7.rowIs g 3 n (fun i => .int .i64 ((E i : Nat) : Int)) := by rw [hW7]; exact rowIs_grow r6 _ _
            have q7 : W7.rowIs w1.heap.size 3 n (fun j => Value.int .i64 ((if j = p1 then v0 else r j : Nat) : Int)) := by rw [hW7]; exact rowIs_grow q6' _ _
            have g7 : w1.grownBy W7 none := by rw [hW7]; exact growBy_trans g6 (growBy_grow _ _ _ _)
            rw [← hW7]
            clear hW7 r6 q6' g6 c0 c1 HK HCx
            have c1 := r7.cell hlt
            rw [hp1] at c1
            have d1 : W7.cell? ⟨w1.heap.size, p1, none⟩ = some (.int .i64 v0) := by have := q7.cell hl1; simpa using this
            have fz := q7.frozen p1
            have hz8 : (p1 : Int) < (n : Int) := by omega
            have q8 := (q7.set p1 (.int .i64 ((v0 + 1 : Nat) : Int))).congr (g := fun j => Value.int .i64 ((if j = p1 then v0 + 1 else (if j = p1 then v0 else r j) : Nat) : Int)) (fun i _ => by by_cases h : i = p1 <;> simp [h])
            have r8 := r7.setOther (a := ⟨w1.heap.size, p1, none⟩) hne (.int .i64 ((v0 + 1 : Nat) : Int))
            have g8 : w1.grownBy (W7.setCell ⟨w1.heap.size, p1, none⟩ (.int .i64 ((v0 + 1 : Nat) : Int))) none := ⟨g7.os, g7.tape, g7.output, by simpa using g7.size, fun i hi hn => by
              rw [Deep.blk_setCell_other _ _ _ _ (by simp; omega)]; exact g7.block i hi hn⟩
            rw [show ((v0 + 1 : Nat) : Int) = (v0 : Int) + 1 from by omega] at q8 r8 g8
            clear q7 g7
            go_wp2
            go_roundw
            case rel => exact ⟨t + 2, _, by omega, by omega, by go_num, I2, r8, q8, g8⟩
            case measure => simp [intOf]; omega
    · go_wp2
      go_ret
      exact HF.out _ r (fun i hi hin => I.out i (by omega) hin) hrE hrR hgb

end Go.Proofs.Ytnmhjhfdgfdooaa
