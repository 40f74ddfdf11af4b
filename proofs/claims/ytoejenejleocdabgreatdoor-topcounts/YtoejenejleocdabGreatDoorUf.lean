/- The walk of the law TopCounts. -/
import Derived.Test.YtoejenejleocdabGreatDoorUe
namespace Go.Proofs.YtoejenejleocdabGreatDoor
open Go.RowKit Tx
attribute [local irreducible] Bt.pop Bt.popF

namespace Tx
/-- the first i signs stand at p, and all have room -/
def preB (T t : List Int) (p i : Nat) : Bool := decide (p + t.length ≤ T.length) && (List.range i).all fun j => T.getD (p + j) 0 == t.getD j 0
theorem preB_zero (T t : List Int) (p : Nat) : preB T t p 0 = decide (p + t.length ≤ T.length) := by simp [preB]
theorem preB_succ (T t : List Int) (p i : Nat) : preB T t p (i + 1) = (preB T t p i && (T.getD (p + i) 0 == t.getD i 0)) := by
  unfold preB
  rw [List.range_succ, List.all_append, ← Bool.and_assoc]
  simp
theorem preB_no (T t : List Int) (p : Nat) : ∀ (k i : Nat), preB T t p i = false → preB T t p (i + k) = false
  | 0, i, h => h
  | k + 1, i, h => by rw [← Nat.add_assoc, preB_succ, preB_no T t p k i h]; rfl
theorem preB_room (T t : List Int) (p i : Nat) (h : preB T t p i = true) : p + t.length ≤ T.length := by
  unfold preB at h
  simp at h
  exact h.1
theorem preB_stands (T t : List Int) (p : Nat) (hp : p ≤ T.length) : preB T t p t.length = En.stands T t p := by
  rw [Bool.eq_iff_iff, En.stands_iff T t p hp]
  unfold preB
  simp
/-- how many of the first k places -/
def cntK (T : List Int) (o : Option (List Int)) (k : Nat) : Nat := match o with
  | none => 0
  | some t => ((List.range k).filter fun p => preB T t p t.length).length
theorem cntK_succ (T t : List Int) (k : Nat) : cntK T (some t) (k + 1) = cntK T (some t) k + (if preB T t k t.length = true then 1 else 0) := by
  unfold cntK
  dsimp only
  rw [List.range_succ, List.filter_append, List.length_append]
  congr 1
  by_cases h : preB T t k t.length = true
  · simp [h]
  · simp [h]
theorem cntK_le (T : List Int) (o : Option (List Int)) (k : Nat) : cntK T o k ≤ k := by
  unfold cntK
  cases o with
  | none => exact Nat.zero_le _
  | some t => exact Nat.le_trans (List.length_filter_le _ _) (by simp)
theorem cntK_all (ls : List (List Wd)) (q : Wd) : cntK (bt ls) (sgn (Tx.bw ls) q) (bt ls).length = cntW ls q := by
  unfold cntK cntW
  cases sgn (Tx.bw ls) q with
  | none => rfl
  | some t =>
    dsimp only
    unfold En.plc
    congr 1
    apply List.filter_congr
    intro p hp
    exact preB_stands _ _ p (by have := List.mem_range.1 hp; omega)
end Tx

set_option maxRecDepth 100000 in
set_option maxHeartbeats 2000000 in
theorem topCounts_err (l q : Wd) (w : World) (hg : GV w) (hq : q.length ≤ 1000000000) (he : errB l ≠ 0) :
    Calls Tryz.prog 4 #[sv l, sv q] w fun e w' => e = .returned (.bool true) ∧ Below w.heap.size w w' := by
  have H1 := Lib.hid (open_err l w hg he)
  have H2 : Hid (∀ W, Below w.heap.size w W → Calls Tryz.prog 24 #[sh0, sv q] W fun e w' => e = .returned (.int .i64 0) ∧ Below w.heap.size w w') := Lib.hid fun W hW => (countS_zero q W (hg.on hW) hq).mono fun e w' hh => ⟨hh.1, hW.trans (hh.2.mono hW.size)⟩
  have H3 : Hid (∀ W, Below w.heap.size w W → Calls Tryz.prog 25 #[] W fun e w' => e = .returned (.bool true) ∧ Below w.heap.size w w') := Lib.hid fun W hW => (alive_any W (hg.on hW)).mono fun e w' hh => ⟨hh.1, hW.trans (hh.2.mono hW.size)⟩
  generalize errB l = x at *
  have hne : (x != 0) = true := by simpa using he
  clear he hg hq
  go_enter Tryz.func4, Tryz.ntmps4
  go_wp2_with fail
  with_reducible refine H1.out.mono ?_
  rintro e w1 ⟨rfl, hb1⟩
  have hb2 := hb1.alloc hb1.size obj0
  clear H1
  go_wp2_with fail
  with_reducible refine (H2.out _ hb2).mono ?_
  rintro e w2 ⟨rfl, hb3⟩
  clear H2
  go_wp2_with fail
  with_reducible refine (H3.out _ hb3).mono ?_
  rintro e w3 ⟨rfl, hb4⟩
  clear H3
  go_wp2
  go_ret
  exact ⟨by first | rfl | simp, hb4⟩

set_option maxRecDepth 100000 in
set_option maxHeartbeats 4000000 in
theorem topCounts_ok (l q : Wd) (w : World) (hg : GV w) (hq : q.length ≤ 1000000000) (he : errB l = 0) :
    Calls Tryz.prog 4 #[sv l, sv q] w fun e w' => e = .returned (.bool true) ∧ Below w.heap.size w w' := by
  have H1 := Lib.hid (open_ok l w hg he)
  unfold OpenOK at H1
  generalize linesOf l = ls at *
  have HS : Hid (∀ B s W, SHB w B ls s W → Calls Tryz.prog 26 #[.agg #[.slice s.A s.n s.c, .slice s.A2 s.n2 s.c2], sv q] W (SgPost W (sgn (Tx.bw ls) q))) := Lib.hid fun B s W hW => hW.signs (hg.on hW.old) q hq
  have H2 : Hid (∀ B s W, SHB w B ls s W → Calls Tryz.prog 24 #[s.v, sv q] W fun e w' => e = .returned (.int .i64 (cntW ls q : Nat)) ∧ SHB w B ls s w') := Lib.hid fun B s W hW => (countS_any ls s q W hW.sh (hg.on hW.old) hq).mono fun e w' hh => ⟨hh.1, hW.on hh.2⟩
  have H3 : Hid (∀ B s W, SHB w B ls s W → Calls Tryz.prog 27 #[s.v, sv q] W fun e w' => ∃ X cx, e = .returned (.slice X (cntW ls q) cx) ∧ SHB w B ls s w') := Lib.hid fun B s W hW => (placesS_any ls s q W hW.sh (hg.on hW.old) hq).mono fun e w' ⟨X, cx, h1, h2, h3⟩ => ⟨X, cx, by rw [h1, ← plcW_len]; simp [up], hW.on h3⟩
  have H4 : Hid (∀ B s W, SHB w B ls s W → Calls Tryz.prog 25 #[] W fun e w' => e = .returned (.bool true) ∧ SHB w B ls s w') := Lib.hid fun B s W hW => (alive_any W (hg.on hW.old)).mono fun e w' hh => ⟨hh.1, hW.on hh.2⟩
  have HA := Lib.hid (cntK_all ls q)
  have HL : Hid (∀ t, sgn (Tx.bw ls) q = some t → t.length ≤ 4000000000) := Lib.hid fun t ht => by have := sgn_length ht; omega
  clear hg hq he
  generalize sgn (Tx.bw ls) q = o at *
  generalize cntW ls q = C at *
  go_enter Tryz.func4, Tryz.ntmps4
  go_wp2_with fail
  with_reducible refine H1.out.mono ?_
  rintro e w1 ⟨s, rfl, hsh, hb1⟩
  have J := SHB.start hsh hb1
  clear H1 hsh hb1
  have HSi := Lib.hid (HS.out _ _ _ J)
  clear HS
  go_wp2_with fail
  with_reducible refine HSi.out.mono ?_
  clear HSi
  generalize hW1 : w1.alloc s.obj = W1 at J ⊢
  clear hW1
  generalize w1.heap.size = B at J ⊢
  cases o with
  | none =>
    rintro e w2 ⟨rfl, hb2⟩
    have J2 := J.on hb2
    have H2i := Lib.hid (H2.out _ _ _ J2)
    clear J hb2 HL H2
    have hA0 : C = 0 := HA.out.symm
    subst hA0
    have hn3 : s.n2 ≤ 102 := by have h1 := J2.sh.short; have h2 := J2.sh.book.tlen; omega
    obtain ⟨c0, c1, c2, c3, c4, c5, c6⟩ := J2.cells
    go_wp2_with fail
    go_loop [9, 38] (fun s9 t => ∃ k : Nat, k ≤ s.n2 ∧ t = .int .i64 k ∧ s9 = .int .i64 0) (fun _ t => s.n2 - (intOf t).toNat)
    case atStart => exact ⟨0, Nat.zero_le _, rfl, rfl⟩
    case round =>
      obtain ⟨k, hk, rfl, rfl⟩ := hrel
      by_cases hlt : k < s.n2
      · have hlz : (k : Int) < (s.n2 : Int) := by omega
        clear H2i H3 H4
        go_wp2
        go_loop [11, 12] (fun s11 s12 => s11 = .bool false ∧ s12 = .int .i64 0) (fun _ _ => 0)
        case atStart => exact ⟨rfl, rfl⟩
        case round =>
          obtain ⟨rfl, rfl⟩ := hrel
          go_wp2
          go_round
          case rel => exact ⟨k + 1, by omega, by go_num, rfl⟩
          case measure => simp [intOf]; omega
      · obtain rfl : k = s.n2 := by omega
        go_wp2_with fail
        with_reducible refine H2i.out.mono ?_
        rintro e w3 ⟨rfl, J3⟩
        have H3i := Lib.hid (H3.out _ _ _ J3)
        clear H2i J2 c0 c1 c2 c3 c4 c5 c6
        obtain ⟨c0, c1, c2, c3, c4, c5, c6⟩ := J3.cells
        go_wp2_with fail
        with_reducible refine H3i.out.mono ?_
        rintro e w4 ⟨X, cx, rfl, J4⟩
        have H4i := Lib.hid (H4.out _ _ _ J4)
        clear H3i J3 H3 H4
        go_wp2_with fail
        with_reducible refine H4i.out.mono ?_
        rintro e w5 ⟨rfl, J5⟩
        have hold := J5.old
        clear H4i J4 J5
        go_wp2
        go_ret
        exact ⟨by first | rfl | simp, hold⟩
  | some t =>
    rintro e w2 ⟨A, c, rfl, hc, hr, hb2⟩
    have J2 := J.on hb2
    clear J hb2
    have htl := HL.out t rfl
    clear HL
    have hn2 := J2.sh.short
    have htx := J2.sh.book.text
    have htn := J2.sh.book.tlen
    have HT : Hid (∀ i, i < (bt ls).length → ∃ b o, s.A2 = some ⟨b, o, none⟩ ∧ w2.cell? ⟨b, o + i, none⟩ = some (.int .i64 ((bt ls).getD i 0))) := Lib.hid fun i hi => by
      obtain ⟨b, o, e, _, hcc⟩ := htx (by omega)
      exact ⟨b, o, e, hcc i hi⟩
    have HR : Hid (∀ i, i < t.length → ∃ b o, A = some ⟨b, o, none⟩ ∧ w2.cell? ⟨b, o + i, none⟩ = some (.int .i64 (t.getD i 0))) := Lib.hid fun i hi => by
      obtain ⟨b, o, e, _, hcc⟩ := hr (by omega)
      exact ⟨b, o, e, hcc i hi⟩
    have HP0 := Lib.hid (preB_zero (bt ls) t)
    have HPs := Lib.hid (preB_succ (bt ls) t)
    have HPn := Lib.hid (preB_no (bt ls) t)
    have HPr := Lib.hid (preB_room (bt ls) t)
    have HKs := Lib.hid (cntK_succ (bt ls) t)
    have HKl := Lib.hid (cntK_le (bt ls) (some t))
    rw [← htn] at HT HP0 HA HPr
    have hn3 : s.n2 ≤ 102 := by omega
    obtain ⟨c0, c1, c2, c3, c4, c5, c6⟩ := J2.cells
    have HJ : Hid (∀ d, SHB w B ls s (w2.drewN d)) := Lib.hid fun d => J2.on (Below.drewN (Below.refl _ w2) d)
    clear htx htn hr hn2 J2
    have hk0 : cntK (bt ls) (some t) 0 = 0 := rfl
    have HK0 := Lib.hid hk0
    clear hk0
    generalize hKK : cntK (bt ls) (some t) = KK at *
    clear hKK
    generalize hPP : preB (bt ls) t = PP at *
    clear hPP
    generalize hbt : (fun i => (bt ls).getD i 0) = T at *
    have HTT : Hid (∀ i, (bt ls).getD i 0 = T i) := Lib.hid fun i => by rw [← hbt]
    clear hbt
    go_wp2_with fail
    go_loopw [9, 38] (fun s9 u wr => ∃ k d : Nat, k ≤ s.n2 ∧ u = .int .i64 k ∧ s9 = .int .i64 (KK k : Nat) ∧ wr = w2.drewN d) (fun _ u _ => s.n2 - (intOf u).toNat)
    case atStart => exact ⟨0, 0, Nat.zero_le _, rfl, by rw [HK0.out]; rfl, rfl⟩
    case round =>
      obtain ⟨k, d, hk, rfl, rfl, rfl⟩ := hrel
      by_cases hlt : k < s.n2
      · have hlz : (k : Int) < (s.n2 : Int) := by omega
        have hKl := HKl.out k
        have HKk := Lib.hid (HKs.out k)
        have HPk := Lib.hid (HP0.out k)
        clear H2 H3 H4 HKs HKl HA HK0 HP0
        have hst : IntKind.i64.wrap ((k : Int) + (t.length : Int)) = (k : Int) + (t.length : Int) := w64 _ (by omega) (by omega)
        go_wp2
        go_loopw [11, 12] (fun s11 s12 wr => ∃ i d : Nat, i ≤ t.length ∧ s12 = .int .i64 i ∧ s11 = .bool (PP k i) ∧ wr = w2.drewN d) (fun _ s12 _ => t.length - (intOf s12).toNat)
        case atStart => exact ⟨0, _, Nat.zero_le _, rfl, by rw [HPk.out]; congr 1; exact decide_eq_decide.2 (by omega), rfl⟩
        case round =>
          obtain ⟨i, d2, hi, rfl, rfl, rfl⟩ := hrel
          clear HPk hst
          cases hP : PP k i with
          | false =>
            have HPf : Hid (PP k t.length = false) := Lib.hid (by
              have := HPn.out k (t.length - i) i hP
              rwa [show i + (t.length - i) = t.length from by omega] at this)
            clear HPs HPn HPr HT HR
            go_wp2
            go_roundw
            case rel => exact ⟨k + 1, _, by omega, by go_num, by rw [HKk.out, HPf.out]; rfl, rfl⟩
            case measure => simp [intOf]; omega
          | true =>
            by_cases hil : i < t.length
            · have hiz : (i : Int) < (t.length : Int) := by omega
              have hroom := HPr.out k i hP
              obtain ⟨b1, o1, e1, d1⟩ := HT.out (k + i) (by omega)
              obtain ⟨b2, o2, rfl, d2'⟩ := HR.out i hil
              have HPi := Lib.hid (HPs.out k i)
              rw [HTT.out] at d1 HPi
              rw [hP, Bool.true_and] at HPi
              clear HPs HPn HPr HT HR HKk
              generalize T (k + i) = x at *
              generalize t.getD i 0 = y at *
              have c1' := c1
              rw [e1] at c1'
              have hk2 : (k : Int) + (i : Int) < (s.n2 : Int) := by omega
              have hk3 : IntKind.i64.wrap ((k : Int) + (i : Int)) = ((k + i : Nat) : Int) := by rw [w64 _ (by omega) (by omega)]; omega
              clear c1
              go_wp2_with fail
              go_quiet (fail)
              go_wp2_with fail
              go_roundw
              case rel => exact ⟨i + 1, _, by omega, by go_num, by rw [HPi.out], rfl⟩
              case measure => simp [intOf]; omega
            · obtain rfl : i = t.length := by omega
              clear HPs HPn HPr HT HR
              rw [hP] at HKk
              go_wp2
              go_roundw
              case rel => exact ⟨k + 1, _, by omega, by go_num, by rw [HKk.out]; go_num, rfl⟩
              case measure => simp [intOf]; omega
      · obtain rfl : k = s.n2 := by omega
        have J3 := HJ.out d
        rw [HA.out]
        generalize w2.drewN d = w3 at *
        clear HT HR HP0 HPs HPn HPr HKs HKl HJ HA HK0 HTT c0 c1 c2 c3 c4 c5 c6
        have H2i := Lib.hid (H2.out _ _ _ J3)
        obtain ⟨c0, c1, c2, c3, c4, c5, c6⟩ := J3.cells
        go_wp2_with fail
        with_reducible refine H2i.out.mono ?_
        rintro e w4 ⟨rfl, J4⟩
        have H3i := Lib.hid (H3.out _ _ _ J4)
        clear H2i H2 J3 c0 c1 c2 c3 c4 c5 c6
        obtain ⟨c0, c1, c2, c3, c4, c5, c6⟩ := J4.cells
        have hCC : ((C : Int) == (C : Int)) = true := by simp
        go_wp2_with fail
        with_reducible refine H3i.out.mono ?_
        rintro e w5 ⟨X, cx, rfl, J5⟩
        have H4i := Lib.hid (H4.out _ _ _ J5)
        clear H3i H3 H4 J4
        go_wp2_with fail
        with_reducible refine H4i.out.mono ?_
        rintro e w6 ⟨rfl, J6⟩
        have hold := J6.old
        clear H4i J5 J6
        go_wp2
        go_ret
        exact ⟨by first | rfl | simp, hold⟩

theorem topCounts_any (s q : ByteArray) (w : World) (hg : GV w) (_ : s.data.toList.length ≤ 1048576) (hq : q.data.toList.length ≤ 1048576) :
    Calls Tryz.prog 4 #[.string s, .string q] w fun e w' => e = .returned (.bool true) ∧ Below w.heap.size w w' := by
  have e1 : Value.string s = sv s.data.toList := by unfold sv; rw [toArray_data]
  have e2 : Value.string q = sv q.data.toList := by unfold sv; rw [toArray_data]
  rw [e1, e2]
  by_cases he : errB s.data.toList = 0
  · exact topCounts_ok _ _ w hg (by omega) he
  · exact topCounts_err _ _ w hg (by omega) he

end Go.Proofs.YtoejenejleocdabGreatDoor
