/- The walk of the law WaveCounts, where the list is short. -/
import Derived.Test.YtgnakccbkglfpaaWw
namespace Go.Proofs.Ytgnakccbkglfpaa
open Go.RowKit
attribute [local irreducible] Bt.pop Bt.popF

set_option maxRecDepth 100000 in
set_option maxHeartbeats 4000000 in
theorem waveCounts_short (A : Option Addr) (c : Nat) (l : List Nat) (d : Nat) (fr tu : Int) (w : World) (hr : NRow w w.heap.size A l) (h1 : 1 ≤ d) (h16 : d ≤ 16) (hf : ∀ n ∈ l, n < 2 ^ d) (hl : l.length ≤ 200) :
    Calls Try.prog 9 #[.slice A l.length c, .int .i64 d, .int .i64 fr, .int .i64 tu] w fun e w' => e = .returned (.bool true) ∧ Below w.heap.size w w' := by
  have HM := Lib.hid (make_wave A c l d w hr h1 h16 hf (by omega))
  have HWv := Lib.hid (fun W => wavesK_any W)
  have hz : ¬ (200 : Int) < (l.length : Int) := by omega
  have HI := Lib.hid (cl_is l.length fr)
  have HJ := Lib.hid (cl_is l.length tu)
  have hi := Wv.cl_le l.length fr
  have hj := Wv.cl_le l.length tu
  have HR : Hid (∀ W, Below w.heap.size w W → ∀ k, k < l.length → ∃ b o, A = some ⟨b, o, none⟩ ∧ W.cell? ⟨b, o + k, none⟩ = some (.int .i64 ((l.getD k 0 : Nat) : Int))) := Lib.hid fun W h k hk => by
    obtain ⟨b, o, e, hb, hc⟩ := hr (by omega)
    exact ⟨b, o, e, (h.cell (p := ⟨b, o + k, none⟩) hb).trans (hc k hk)⟩
  generalize Wv.cl l.length fr = i at *
  generalize Wv.cl l.length tu = j at *
  obtain ⟨K, hK⟩ : ∃ K, K = Wv.kinds l i j (2 ^ d) := ⟨_, rfl⟩
  have Q1 : Hid (∀ t, t < K.length → cN l (K.getD t 0) i < cN l (K.getD t 0) j ∧ Wv.more l i j (K.getD t 0) = cN l (K.getD t 0) j - cN l (K.getD t 0) i) := Lib.hid fun t ht => by
    have h2 := (Wv.kinds_lt l i j (2 ^ d) (K.getD t 0) (by rw [← hK, List.getD_eq_getElem?_getD, List.getElem?_eq_getElem ht]; exact List.getElem_mem ht)).2
    exact ⟨h2, rfl⟩
  have Q2 : Hid (∀ t, t < K.length → lastK K t < ((K.getD t 0 : Nat) : Int)) := Lib.hid fun t ht => lastK_lt K (by rw [hK]; exact Wv.kinds_rising l i j _) t ht
  have Q3 : Hid (∀ t, t < K.length → sumK l K i j (t + 1) = sumK l K i j t + Wv.more l i j (K.getD t 0)) := Lib.hid (sumK_succ l K i j)
  have Q4 : Hid (∀ t, sumK l K i j t ≤ l.length) := Lib.hid fun t => by rw [hK]; exact sumK_le l i j d t hf hj
  have Q5 : Hid (sumK l K i j K.length = j - i) := Lib.hid (by rw [hK]; exact sumK_all l i j d hf hj)
  have Q6 : Hid (∀ t, lastK K (t + 1) = ((K.getD t 0 : Nat) : Int)) := Lib.hid fun t => by unfold lastK; rw [if_neg (by omega), Nat.add_sub_cancel]
  have Q7 : K.length ≤ 65536 := by
    rw [hK]
    exact Nat.le_trans (Wv.kinds_len l i j _) (Nat.le_trans (Nat.pow_le_pow_right (by omega) h16) (by decide))
  have HKe : Hid (kindsN l d i j = K) := Lib.hid (by unfold kindsN; rw [cl_self _ _ hi, cl_self _ _ hj, hK])
  have HAt : Hid (∀ k : Nat, k < l.length → atI l k = ((l.getD k 0 : Nat) : Int)) := Lib.hid fun k hk => by unfold atI; rw [if_pos ⟨by omega, by omega⟩, Int.toNat_natCast]
  have HCs : Hid (∀ k : Nat, k < l.length → cN l (l.getD k 0) (k + 1) = cN l (l.getD k 0) k + 1) := Lib.hid fun k hk => by unfold cN; rw [Wv.count_take_succ l k _ hk, if_pos rfl]
  have HLe : Hid (∀ x q, cN l x q ≤ 200) := Lib.hid fun x q => Nat.le_trans (Wv.count_take_le l q x) hl
  clear hr hf hK
  generalize hN : l.length = N at *
  have HN := Lib.hid hN
  clear hN
  go_enter Try.func9, Try.ntmps9
  go_wp2_with fail
  with_reducible refine HM.out.mono ?_
  rintro e w1 ⟨A', c', rfl, hcap, hWave, hb1⟩
  have J : LW w w1.heap.size N A' d c' l (w1.alloc (.cells #[.int .i64 N, .int .i64 d, .slice A' d c'] 45)) := LW.start hWave HN.out.symm hcap hb1 45
  clear HM hWave hb1 hcap
  go_wp2_with fail
  with_reducible refine (HWv.out _).mono ?_
  rintro e w2 ⟨rfl, hb3⟩
  have J := J.on hb3
  clear hb3 HWv
  generalize w1.heap.size = B at *
  go_upto_region 4 with fail
  go_cut [2, 3] (fun s2 s3 W => s2 = .int .i64 i ∧ s3 = .int .i64 j ∧ LW w B N A' d c' l W)
  case first =>
    go_wp2_with fail
    all_goals
      go_meet
      exact ⟨by rw [← HI.out]; go_num, by rw [← HJ.out]; go_num, J⟩
  case rest =>
  clear J HI HJ
  obtain ⟨rfl, rfl, J⟩ := hcut
  have j0 := J.c0
  have j1 := J.c1
  have j2 := J.c2
  have HKi := Lib.hid (fun W (h : LW w B N A' d c' l W) => h.kinds i j (by omega) (by omega) (by omega) (by omega))
  rw [HKe.out] at HKi
  go_wp2_with fail
  with_reducible refine (HKi.out _ J).mono ?_
  rintro e w3 ⟨X, cx, rfl, hX, J3⟩
  have HX : Hid (∀ W, Below w3.heap.size w3 W → ∀ t, t < K.length → ∃ b o, X = some ⟨b, o, none⟩ ∧ W.cell? ⟨b, o + t, none⟩ = some (.int .i64 ((K.getD t 0 : Nat) : Int))) := Lib.hid fun W h t ht => by
    obtain ⟨b, o, e, hb, hc⟩ := hX (by omega)
    exact ⟨b, o, e, (h.cell (p := ⟨b, o + t, none⟩) hb).trans (hc t ht)⟩
  have HCn := Lib.hid (fun W x q hq (h : LW w3 B N A' d c' l W) => h.countN x q hq (by omega))
  have HAn := Lib.hid (fun W (k : Nat) (h : LW w3 B N A' d c' l W) => h.at_ k)
  have HO := Lib.hid J3.old
  have L3 : LW w3 B N A' d c' l w3 := ⟨J3.c0, J3.c1, J3.c2, J3.wave, J3.len, J3.cap, J3.lt, Below.refl _ _⟩
  clear HKi HKe J hX j0 j1 j2 J3
  go_wp2
  go_loopw [11, 12, 51] (fun s11 s12 t W => ∃ k : Nat, k ≤ K.length ∧ t = .int .i64 k ∧ s11 = .int .i64 (sumK l K i j k : Nat) ∧ s12 = .int .i64 (lastK K k) ∧ LW w3 B N A' d c' l W) (fun _ _ t _ => K.length - (intOf t).toNat)
  case atStart => exact ⟨0, Nat.zero_le _, rfl, rfl, rfl, L3⟩
  case round =>
    clear L3
    obtain ⟨k, hk, rfl, rfl, rfl, J⟩ := hrel
    by_cases hlt : k < K.length
    · obtain ⟨b, o, rfl, hc1⟩ := HX.out wr J.old k hlt
      have hlz : (k : Int) < (K.length : Int) := by omega
      obtain ⟨m1, m2⟩ := Q1.out k hlt
      have m3 := Q2.out k hlt
      have m4 := Q3.out k hlt
      have m5 := Q4.out k
      have m6 := Q4.out (k + 1)
      have m7 := Q6.out k
      have m8 := HLe.out (K.getD k 0) j
      rw [← m7] at m3
      have E7 := Lib.hid m7
      have E4 := Lib.hid m4
      generalize K.getD k 0 = x at *
      generalize hx2 : lastK K (k + 1) = y at *
      generalize lastK K k = z at *
      have HCj := Lib.hid (fun W (h : LW w3 B N A' d c' l W) => HCn.out W x j hj h)
      have HCi := Lib.hid (fun W (h : LW w3 B N A' d c' l W) => HCn.out W x i hi h)
      generalize cN l x j = cj at *
      generalize cN l x i = ci at *
      generalize Wv.more l i j x = mo at *
      generalize sumK l K i j k = s0 at *
      generalize hs1 : sumK l K i j (k + 1) = s1 at *
      have v1 : (cj : Int) - (ci : Int) = (mo : Int) := by omega
      have v2 : ¬ ((mo : Int) < 1) := by omega
      have v3 : ¬ ((x : Int) ≤ z) := by omega
      have v4 : (s0 : Int) + (mo : Int) = (s1 : Int) := by omega
      have HS1 := Lib.hid hs1
      have HX2 := Lib.hid hx2
      have V1 := Lib.hid v1
      have V4 := Lib.hid v4
      have j0 := J.c0
      have j1 := J.c1
      have j2 := J.c2
      have J1 := J.drew
      clear m1 m2 m3 m4 m7 hs1 hx2 v4 Q1 Q2 Q3 Q4 Q5 Q6 HX HCn HAn HR HAt HCs HLe HO v1 J
      go_upto_region 10 with fail
      refine wp_region_takes 8 [0, 1, 2, 4, 5, 6] [3, 7] (fun w' => w'.cell? ⟨B, 0, none⟩ = some (.int .i64 N) ∧ w'.cell? ⟨B, 1, none⟩ = some (.int .i64 d) ∧ w'.cell? ⟨B, 2, none⟩ = some (.slice A' d c')) (by kernel_rfl) (by kernel_rfl) ⟨j0, j1, j2⟩ ?_
      refine wpTakes_cons (v := ?_) _ at0 rfl ?_ ?_ ?_
      rotate_left 1
      · rintro W ⟨x0, x1, x2⟩
        go_simp
        rfl
      · exact fun _ _ _ h => h
      simp only [Act.put, List.setIfInBounds_toArray, List.set_cons_zero, List.set_cons_succ]
      refine wpTakes_cons (v := ?_) _ at1 rfl ?_ ?_ ?_
      rotate_left 1
      · rintro W ⟨x0, x1, x2⟩
        go_simp
        rfl
      · exact fun _ _ _ h => h
      simp only [Act.put, List.setIfInBounds_toArray, List.set_cons_zero, List.set_cons_succ]
      refine wpTakes_cons (v := ?_) _ at2 rfl ?_ ?_ ?_
      rotate_left 1
      · rintro W ⟨x0, x1, x2⟩
        go_simp
        rfl
      · exact fun _ _ _ h => h
      simp only [Act.put, List.setIfInBounds_toArray, List.set_cons_zero, List.set_cons_succ]
      refine wpTakes_cons (v := ?_) _ at4 rfl ?_ ?_ ?_
      rotate_left 1
      · rintro W ⟨x0, x1, x2⟩
        go_simp
        rfl
      · exact fun _ _ _ h => h
      simp only [Act.put, List.setIfInBounds_toArray, List.set_cons_zero, List.set_cons_succ]
      refine wpTakes_cons (v := ?_) _ at5 rfl ?_ ?_ ?_
      rotate_left 1
      · rintro W ⟨x0, x1, x2⟩
        go_simp
        rfl
      · exact fun _ _ _ h => h
      simp only [Act.put, List.setIfInBounds_toArray, List.set_cons_zero, List.set_cons_succ]
      refine wpTakes_cons (v := ?_) _ at6 rfl ?_ ?_ ?_
      rotate_left 1
      · rintro W ⟨x0, x1, x2⟩
        go_simp
        rfl
      · exact fun _ _ _ h => h
      simp only [Act.put, List.setIfInBounds_toArray, List.set_cons_zero, List.set_cons_succ]
      refine wpTakes_nil (wpCalls_cons _ at3 rfl fun K' hK' => ?_)
      go_simp
      go_at_call 42
      refine (HCj.out _ J1).mono ?_
      rintro e w4 ⟨rfl, J2⟩
      refine hK'.out _ _ ⟨J2.c0, J2.c1, J2.c2⟩ ?_
      clear hK'
      refine wpCalls_cons _ at7 rfl fun K' hK' => ?_
      go_simp
      go_at_call 42
      refine (HCi.out _ J2).mono ?_
      rintro e w5 ⟨rfl, J3⟩
      refine hK'.out _ _ ⟨J3.c0, J3.c1, J3.c2⟩ (wpCalls_nil ?_)
      clear hK' HCj HCi j0 j1 j2 J1 J2
      simp only [List.drop_succ_cons, List.drop_zero]
      have v1 := V1.out
      clear V1
      go_wp2
      clear v1
      go_roundw
      case rel => exact ⟨k + 1, by omega, by go_num, by rw [HS1.out, ← V4.out], by rw [HX2.out, E7.out], J3⟩
      case measure => simp [intOf]; omega
    · have hkn : k = K.length := by omega
      subst hkn
      rw [Q5.out]
      generalize wr = W0 at *
      clear Q1 Q2 Q3 Q4 Q5 Q6 HX
      go_wp2
      go_loopw [78] (fun t W => ∃ q : Nat, q ≤ N ∧ t = .int .i64 q ∧ LW w3 B N A' d c' l W) (fun t _ => N - (intOf t).toNat)
      case atStart => exact ⟨0, Nat.zero_le _, rfl, J⟩
      case round =>
        clear J
        obtain ⟨q, hq, rfl, J⟩ := hrel
        have hold := HO.out.trans (J.old.mono HO.out.size)
        by_cases hlt2 : q < N
        · obtain ⟨b, o, rfl, hc1⟩ := HR.out wr hold q hlt2
          have hlz : (q : Int) < (N : Int) := by omega
          have HA1 := Lib.hid (fun W (h : LW w3 B N A' d c' l W) => HAn.out W q h)
          rw [HAt.out q hlt2] at HA1
          have e1 := HCs.out q hlt2
          have e2 := HLe.out (l.getD q 0) q
          have HC1 : Hid (∀ W, LW w3 B N A' d c' l W → Calls Try.prog 42 #[.agg #[.int .i64 N, .int .i64 d, .slice A' d c'], .int .i64 ((l.getD q 0 : Nat) : Int), .int .i64 ((q : Int) + 1)] W fun e w' => e = .returned (.int .i64 (cN l (l.getD q 0) (q + 1) : Nat)) ∧ LW w3 B N A' d c' l w') := Lib.hid fun W h => HCn.out W (l.getD q 0) (q + 1) (by omega) h
          have HC0 := Lib.hid (fun W (h : LW w3 B N A' d c' l W) => HCn.out W (l.getD q 0) q (by omega) h)
          generalize l.getD q 0 = x at *
          generalize cN l x (q + 1) = c1 at *
          generalize cN l x q = c0 at *
          have v1 : IntKind.i64.wrap ((q : Int) + 1) = (q : Int) + 1 := w64 _ (by omega) (by omega)
          have v2 : IntKind.i64.wrap ((c0 : Int) + 1) = (c0 : Int) + 1 := w64 _ (by omega) (by omega)
          have t1 : ((x : Int) != (x : Int)) = false := by simp
          have t2 : ((c1 : Int) != (c0 : Int) + 1) = false := by rw [e1]; simp
          have j0 := J.c0
          have j1 := J.c1
          have j2 := J.c2
          have J1 := J.drew
          clear e1 e2 HCn HAn HR HAt HCs HLe J hold
          go_wp2_with fail
          go_region_held3 (fun w' => w'.cell? ⟨B, 0, none⟩ = some (.int .i64 N) ∧ w'.cell? ⟨B, 1, none⟩ = some (.int .i64 d) ∧ w'.cell? ⟨B, 2, none⟩ = some (.slice A' d c')) (first | exact ⟨j0, j1, j2⟩ | exact ⟨J3.c0, J3.c1, J3.c2⟩ | go_keep)
            (first
              | (go_at_call 41; (with_reducible refine (HA1.out _ ?_).mono ?_); (first | assumption | exact J1); rintro e w4 ⟨rfl, J3⟩)
              | (go_at_call 42; (first | (with_reducible refine (HC1.out _ ?_).mono ?_) | (with_reducible refine (HC0.out _ ?_).mono ?_)); (first | assumption | exact J1); rintro e w4 ⟨rfl, J3⟩))
          clear v1 v2 t1 t2 HA1 HC1 HC0
          go_wp2
          go_roundw
          case rel => exact ⟨q + 1, by omega, by go_num, by assumption⟩
          case measure => simp [intOf]; omega
        · clear HCn HAn HR HAt HCs HLe J
          by_cases hij : i ≤ j
          · have e1 : ((j - i : Nat) : Int) = (j : Int) - (i : Int) := by omega
            rw [e1]
            have hz5 : ¬ ((j : Int) - (i : Int) < 0) := by omega
            have hz6 : (0 : Int) ≤ (j : Int) - (i : Int) := by omega
            clear e1
            go_wp2
            all_goals
              go_ret
              exact ⟨by first | rfl | (simp; omega), hold⟩
          · have e1 : ((j - i : Nat) : Int) = 0 := by omega
            rw [e1]
            have hz5 : (j : Int) - (i : Int) < 0 := by omega
            clear e1
            go_wp2
            all_goals
              go_ret
              exact ⟨by first | rfl | (simp; omega), hold⟩

end Go.Proofs.Ytgnakccbkglfpaa
