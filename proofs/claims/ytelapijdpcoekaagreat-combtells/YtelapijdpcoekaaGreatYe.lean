/- sameComb: an index that Make has made of a list is just what the reference makes of it. -/
import Derived.Test.YtelapijdpcoekaaGreatYa
import Derived.Test.YtelapijdpcoekaaGreatJk
import Derived.Test.YtelapijdpcoekaaGreatJj
namespace Go.Proofs.YtelapijdpcoekaaGreat
open Go.RowKit
attribute [local irreducible] Bt.pop Bt.popF

/-- the greatest of the first k -/
def mstK (l : List Int) (k : Nat) : Nat := En.most (l.take k)
theorem most_snoc (a : List Int) (x : Int) : En.most (a ++ [x]) = max (En.most a) x.toNat := by
  induction a with
  | nil => simp [En.most]
  | cons y a ih =>
    simp only [En.most, List.cons_append, List.foldr_cons] at ih ⊢
    rw [ih]
    omega
theorem mstK_succ (l : List Int) (k : Nat) (h : k < l.length) : mstK l (k + 1) = max (mstK l k) (l.getD k 0).toNat := by
  unfold mstK
  rw [List.take_succ_eq_append_getElem h, most_snoc]
  simp [h]
theorem mstK_end (l : List Int) : mstK l l.length = En.most l := by unfold mstK; rw [List.take_length]
theorem mstK_zero (l : List Int) : mstK l 0 = 0 := by simp [mstK, En.most]
theorem mstK_le (l : List Int) (k : Nat) : mstK l k ≤ En.most l := by
  by_cases h : k ≤ l.length
  · obtain ⟨d, hd⟩ : ∃ d, l.length = k + d := ⟨l.length - k, by omega⟩
    have g : ∀ d, k + d ≤ l.length → mstK l k ≤ mstK l (k + d) := by
      intro d
      induction d with
      | zero => intro _; exact Nat.le_refl _
      | succ d ih =>
        intro hd
        have h1 := ih (by omega)
        have h2 := mstK_succ l (k + d) (by omega)
        rw [show k + (d + 1) = k + d + 1 from by omega, h2]
        omega
    rw [← mstK_end l, hd]
    exact g d (by omega)
  · unfold mstK
    rw [List.take_of_length_le (by omega)]
    exact Nat.le_refl _
/-- how many of the first j are less -/
def lsK (l : List Int) (x j : Nat) : Nat := (l.take j).countP fun y => decide (y < (x : Int))
theorem lsK_succ (l : List Int) (x j : Nat) (h : j < l.length) : lsK l x (j + 1) = lsK l x j + if l.getD j 0 < (x : Int) then 1 else 0 := by
  unfold lsK
  rw [List.take_succ_eq_append_getElem h, List.countP_append, List.countP_cons, List.countP_nil, show l.getD j 0 = l[j] from by simp [h]]
  simp
theorem lsK_end (l : List Int) (x : Nat) : lsK l x l.length = En.lessN l x := by unfold lsK; rw [List.take_length, En.lessN_count]
theorem lsK_le (l : List Int) (x j : Nat) : lsK l x j ≤ j := by
  unfold lsK
  exact Nat.le_trans List.countP_le_length (by rw [List.length_take]; omega)

/-- what it looks at -/
structure SC (w : World) (E L S A X : Option Addr) (cE cL cS N M : Nat) (l : List Int) (W : World) : Prop where
  cb : CB w w.heap.size E L S cE cL cS N M l W
  row : IRow W W.heap.size A l
  en : IRow W W.heap.size X (endsI l)
theorem SC.on {w : World} {E L S A X : Option Addr} {cE cL cS N M : Nat} {l : List Int} {W W' : World} (h : SC w E L S A X cE cL cS N M l W) (hb : Below W.heap.size W W') : SC w E L S A X cE cL cS N M l W' := ⟨h.cb.on hb, h.row.on hb, h.en.on hb⟩

set_option maxRecDepth 100000 in
set_option maxHeartbeats 4000000 in
theorem sameComb_any (E L S A : Option Addr) (cE cL cS N M c : Nat) (l : List Int) (w : World) (h : Cmb w E L S l) (hN : N = l.length) (hM : M = En.most l + 2) (hE : N ≤ cE) (hL : 10 ≤ cL) (hr : IRow w w.heap.size A l) (hn : N ≤ 150) :
    Calls Tryz.prog 9 #[.agg #[.slice E N cE, .int .i64 N, .int .i64 10, .slice L 10 cL, .slice S M cS], .slice A N c] w fun e w' => e = .returned (.bool true) ∧ Below w.heap.size w w' := by
  have hsg := h.sg
  have hft := h.fit
  obtain ⟨w0, hw0⟩ : ∃ w0, w0 = w.alloc (.cells #[.slice E N cE, .int .i64 N, .int .i64 10, .slice L 10 cL, .slice S M cS] 29) := ⟨_, rfl⟩
  have hb0 : Below w.heap.size w w0 := by rw [hw0]; exact (Below.refl _ _).alloc (Nat.le_refl _) _
  have J : CB w w.heap.size E L S cE cL cS N M l w0 := by rw [hw0]; exact CB.start h hN hM hE hL (Below.refl _ _) 29
  have HEn : Hid (Calls Tryz.prog 29 #[.slice A N c] w0 fun e w' => ∃ X cx, e = .returned (.slice X N cx) ∧ SC w E L S A X cE cL cS N M l w') := Lib.hid (by
    have h1 := endsOf_any A c l w0 (hr.on hb0) (by omega)
    rw [← hN] at h1
    refine h1.mono ?_
    rintro e w' ⟨X, cx, h2, h3, h4⟩
    rw [endsI_length, ← hN] at h2
    exact ⟨X, cx, h2, J.on h4, (hr.on hb0).on h4, h3⟩)
  have HSI : Hid (∀ X cx W, SC w E L S A X cE cL cS N M l W → Calls Tryz.prog 13 #[.slice E N cE, .slice X N cx] W fun e w' => e = .returned (.bool true) ∧ SC w E L S A X cE cL cS N M l w') := Lib.hid fun X cx W hW => by
    have h1 := sameInts_ints E X cE cx (endsI l) (endsI l) W hW.cb.cmb.ends hW.en (by rw [endsI_length]; omega)
    rw [endsI_length, ← hN] at h1
    refine h1.mono ?_
    rintro e w' ⟨h2, q, rfl⟩
    exact ⟨by rw [h2]; simp, hW.on (Below.drewN (Below.refl _ _) q)⟩
  have HAh : Hid (∀ X cx W, SC w E L S A X cE cL cS N M l W → Calls Tryz.prog 33 #[.slice A N c, .slice X N cx] W fun e w' => ∃ Y cy, e = .returned (.slice Y N cy) ∧ IRow w' w'.heap.size Y (up (En.an l)) ∧ SC w E L S A X cE cL cS N M l w') := Lib.hid fun X cx W hW => by
    have h1 := aheadOf_any A X c cx l (endsI l) W hW.row hW.en (by omega) (by rw [endsI_length]; omega)
    rw [endsI_length, ahead_ends hsg, ← hN] at h1
    refine h1.mono ?_
    rintro e w' ⟨Y, cy, h2, h3, h4⟩
    rw [up_len, En.an_length, ← hN] at h2
    exact ⟨Y, cy, h2, h3, hW.on h4⟩
  have HWo : Hid (∀ X Y cy W, SC w E L S A X cE cL cS N M l W → IRow W W.heap.size Y (up (En.an l)) → Calls Tryz.prog 32 #[.slice Y N cy, .int .i64 10] W fun e w' => ∃ Z cz, e = .returned (.agg #[.int .i64 N, .int .i64 10, .slice Z 10 cz]) ∧ Wave w' Z 10 (En.an l) ∧ SC w E L S A X cE cL cS N M l w') := Lib.hid fun X Y cy W hW hY => by
    have h1 := waveOf_any Y cy (En.an l) 10 W (NRow.of_ints hY) (by omega) (by omega) (an_lt hft) (by rw [En.an_length]; omega)
    rw [En.an_length, ← hN] at h1
    refine h1.mono ?_
    rintro e w' ⟨Z, cz, h2, _, h3, h4⟩
    exact ⟨Z, cz, h2, h3, hW.on h4⟩
  have HSW : Hid (∀ X Z cz W, SC w E L S A X cE cL cS N M l W → Wave W Z 10 (En.an l) → Calls Tryz.prog 31 #[.agg #[.int .i64 N, .int .i64 10, .slice L 10 cL], .agg #[.int .i64 N, .int .i64 10, .slice Z 10 cz]] W fun e w' => e = .returned (.bool true) ∧ SC w E L S A X cE cL cS N M l w') := Lib.hid fun X Z cz W hW hZ => by
    refine (sameWave_any L Z 10 cL cz N (En.an l) W hW.cb.cmb.wave hZ (by rw [En.an_length]; exact hN)).mono ?_
    rintro e w' ⟨h2, h3⟩
    exact ⟨h2, hW.on h3⟩
  have HAt : Hid (∀ X W, SC w E L S A X cE cL cS N M l W → ∀ i, i < N → ∃ b o, A = some ⟨b, o, none⟩ ∧ W.cell? ⟨b, o + i, none⟩ = some (.int .i64 (l.getD i 0))) := Lib.hid fun X W hW i hi => irow_at' hW.row i (by omega)
  have HLs : Hid (∀ X W, SC w E L S A X cE cL cS N M l W → ∀ i, i < M → ∃ b o, S = some ⟨b, o, none⟩ ∧ W.cell? ⟨b, o + i, none⟩ = some (.int .i64 (En.lessN l i : Nat))) := Lib.hid fun X W hW i hi => by
    obtain ⟨b, o, e, hc⟩ := irow_at' hW.cb.cmb.less i (by rw [En.lessL_length]; omega)
    rw [En.lessL_get l i (by omega)] at hc
    exact ⟨b, o, e, hc⟩
  have HNn : Hid (∀ i, 0 ≤ l.getD i 0) := Lib.hid hsg.nn
  have Hms : Hid (∀ k, k < N → mstK l (k + 1) = max (mstK l k) (l.getD k 0).toNat) := Lib.hid fun k hk => mstK_succ l k (by omega)
  have Hml : Hid (∀ k, mstK l k ≤ 1024) := Lib.hid fun k => Nat.le_trans (mstK_le l k) (by omega)
  have Hme : Hid (mstK l N + 2 = M) := Lib.hid (by rw [hN, mstK_end, hM])
  have Hm0 := Lib.hid (mstK_zero l)
  have Hls : Hid (∀ x k, k < N → lsK l x (k + 1) = lsK l x k + if l.getD k 0 < (x : Int) then 1 else 0) := Lib.hid fun x k hk => lsK_succ l x k (by omega)
  have Hll := Lib.hid (lsK_le l)
  have Hle : Hid (∀ x, lsK l x N = En.lessN l x) := Lib.hid fun x => by rw [hN, lsK_end]
  have Hlz : Hid (∀ x, lsK l x 0 = 0) := Lib.hid fun x => by simp [lsK]
  have HW0 := Lib.hid hw0
  have hM5 : M ≤ 1026 := by omega
  clear h hsg hft hN hM hw0 hb0 J hr
  go_enter Tryz.func9, Tryz.ntmps9
  go_wp2_with fail
  rw [← HW0.out]
  with_reducible refine HEn.out.mono ?_
  rintro e w1 ⟨X, cx, rfl, F1⟩
  clear HEn HW0
  go_wp2
  go_loop [6, 18] (fun s6 t => ∃ k : Nat, k ≤ N ∧ t = .int .i64 k ∧ s6 = .int .i64 (mstK l k : Nat)) (fun _ t => N - (intOf t).toNat)
  case atStart => exact ⟨0, Nat.zero_le _, rfl, by rw [Hm0.out]; rfl⟩
  case round =>
    obtain ⟨k, hk, rfl, rfl⟩ := hrel
    by_cases hlt : k < N
    · have hlz : (k : Int) < (N : Int) := by omega
      obtain ⟨b, o, rfl, d1⟩ := HAt.out X w1 F1 k hlt
      have e1 := Hms.out k hlt
      have hx := HNn.out k
      have hm := Hml.out k
      generalize l.getD k 0 = x at *
      generalize mstK l k = m0 at *
      generalize hm1 : mstK l (k + 1) = m1 at *
      have HM1 := Lib.hid hm1
      have E1 := Lib.hid e1
      clear hm1 e1 HAt HLs HNn Hms Hml Hme Hm0 Hls Hll Hle Hlz HSI HAh HWo HSW
      by_cases hc : (m0 : Int) < x
      · go_wp2
        go_round
        case rel => exact ⟨k + 1, by omega, by go_num, by rw [HM1.out, E1.out]; first | go_num | (congr 1; omega)⟩
        case measure => simp [intOf]; omega
      · go_wp2
        go_round
        case rel => exact ⟨k + 1, by omega, by go_num, by rw [HM1.out, E1.out]; first | go_num | (congr 1; omega)⟩
        case measure => simp [intOf]; omega
    · obtain rfl : k = N := by omega
      have hme := Hme.out
      have hml := Hml.out k
      generalize mstK l k = m0 at *
      have v1 : IntKind.i64.wrap ((m0 : Int) + 2) = (M : Int) := by rw [w64 _ (by omega) (by omega)]; omega
      have v2 : ((M : Int) != (M : Int)) = false := by simp
      have c0 := F1.cb.c0
      have c1 := F1.cb.c1
      have c2 := F1.cb.c2
      have c3 := F1.cb.c3
      have c4 := F1.cb.c4
      have FD := F1.on (Below.refl _ _).drew
      have ht : Hid (M = m0 + 2) := Lib.hid (by omega)
      clear hme Hme Hms Hml Hm0
      go_wp2_with fail
      go_region_held3 (fun w' => w'.cell? ⟨w.heap.size, 0, none⟩ = some (.slice E k cE) ∧ w'.cell? ⟨w.heap.size, 1, none⟩ = some (.int .i64 k) ∧ w'.cell? ⟨w.heap.size, 2, none⟩ = some (.int .i64 10) ∧ w'.cell? ⟨w.heap.size, 3, none⟩ = some (.slice L 10 cL) ∧ w'.cell? ⟨w.heap.size, 4, none⟩ = some (.slice S M cS)) (first | exact ⟨c0, c1, c2, c3, c4⟩ | exact ⟨F5.cb.c0, F5.cb.c1, F5.cb.c2, F5.cb.c3, F5.cb.c4⟩ | exact ⟨F4.cb.c0, F4.cb.c1, F4.cb.c2, F4.cb.c3, F4.cb.c4⟩ | exact ⟨F3.cb.c0, F3.cb.c1, F3.cb.c2, F3.cb.c3, F3.cb.c4⟩ | exact ⟨F2.cb.c0, F2.cb.c1, F2.cb.c2, F2.cb.c3, F2.cb.c4⟩ | go_keep)
        (first
          | (go_at_call 13; (with_reducible refine (HSI.out _ _ _ FD).mono ?_); rintro e w2 ⟨rfl, F2⟩)
          | (go_at_call 33; (with_reducible refine (HAh.out _ _ _ F2).mono ?_); rintro e w3 ⟨Y, cy, rfl, hY, F3⟩)
          | (go_at_call 32; (with_reducible refine (HWo.out _ _ _ _ F3 hY).mono ?_); rintro e w4 ⟨Z, cz, rfl, hZ, F4⟩)
          | (go_at_call 31; (with_reducible refine (HSW.out _ _ _ _ F4 hZ).mono ?_); rintro e w5 ⟨rfl, F5⟩))
      have hold := F5.cb.old
      have c4 := F5.cb.c4
      clear v1 v2 c0 c1 c2 c3 FD F1 F2 F3 F4 hY hZ HSI HAh HWo HSW HNn ht
      go_wp2
      go_loop [52] (fun t => ∃ i : Nat, i ≤ M ∧ t = .int .i64 i) (fun t => M - (intOf t).toNat)
      case atStart => exact ⟨0, Nat.zero_le _, rfl⟩
      case round =>
        obtain ⟨i, hi, rfl⟩ := hrel
        by_cases hlt2 : i < M
        · have hlz : (i : Int) < (M : Int) := by omega
          obtain ⟨b, o, rfl, d1⟩ := HLs.out X w5 F5 i hlt2
          have HLi := Lib.hid (Hle.out i)
          have HLs1 := Lib.hid (Hls.out i)
          have HLl := Lib.hid (Hll.out i)
          have HLz := Lib.hid (Hlz.out i)
          generalize En.lessN l (i : Nat) = q at *
          clear HLs Hls Hll Hle Hlz
          go_wp2
          go_loop [11, 59] (fun s11 t => ∃ j : Nat, j ≤ k ∧ t = .int .i64 j ∧ s11 = .int .i64 (lsK l i j : Nat)) (fun _ t => k - (intOf t).toNat)
          case atStart => exact ⟨0, Nat.zero_le _, rfl, by rw [HLz.out]; rfl⟩
          case round =>
            obtain ⟨j, hj, rfl, rfl⟩ := hrel
            by_cases hlt3 : j < k
            · have hlz3 : (j : Int) < (k : Int) := by omega
              obtain ⟨b2, o2, rfl, d2⟩ := HAt.out X w5 F5 j hlt3
              have e1 := HLs1.out j hlt3
              have e2 := HLl.out j
              generalize l.getD j 0 = x at *
              generalize lsK l i j = m1 at *
              generalize hm2 : lsK l i (j + 1) = m2 at *
              have HM2 := Lib.hid hm2
              clear hm2 HLs1 HLl HLz HLi HAt
              by_cases hc : x < (i : Int)
              · rw [if_pos hc] at e1
                have E1 := Lib.hid e1
                clear e1
                go_wp2
                go_round
                case rel => exact ⟨j + 1, by omega, by go_num, by rw [HM2.out, E1.out]; go_num⟩
                case measure => simp [intOf]; omega
              · rw [if_neg hc] at e1
                have E1 := Lib.hid e1
                clear e1
                go_wp2
                go_round
                case rel => exact ⟨j + 1, by omega, by go_num, by rw [HM2.out, E1.out]; go_num⟩
                case measure => simp [intOf]; omega
            · obtain rfl : j = k := by omega
              rw [HLi.out]
              have v2 : ((q : Int) != (q : Int)) = false := by simp
              clear HLs1 HLl HLz HLi HAt
              go_wp2
              go_round
              case rel => exact ⟨i + 1, by omega, by go_num⟩
              case measure => simp [intOf]; omega
        · clear HLs Hls Hll Hle Hlz HAt
          go_wp2
          go_ret
          exact ⟨rfl, hold⟩

end Go.Proofs.YtelapijdpcoekaaGreat
