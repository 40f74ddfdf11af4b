/- The walk of the law CombFinds. -/
import Derived.Test.YtelapijdpcoekaaCq
namespace Go.Proofs.Ytelapijdpcoekaa
open Go.RowKit
attribute [local irreducible] Bt.pop Bt.popF

set_option maxRecDepth 100000 in
set_option maxHeartbeats 1000000 in
theorem combFinds_no (A A2 : Option Addr) (n c n2 c2 : Nat) (w : World) (hM : Calls Try.prog 49 #[.slice A n c] w (NoComb w)) :
    Calls Try.prog 10 #[.slice A n c, .slice A2 n2 c2] w fun e w' => e = .returned (.bool true) ∧ Below w.heap.size w w' := by
  have HM := Lib.hid hM
  have HW := Lib.hid (fun W => combsK_any W)
  clear hM
  go_enter Try.func10, Try.ntmps10
  go_wp2_with fail
  with_reducible refine HM.out.mono ?_
  rintro e w1 ⟨rfl, hb1⟩
  have hb2 := hb1.alloc hb1.size (.cells #[.slice none 0 0, .int .i64 0, .int .i64 0, .slice none 0 0, .slice none 0 0] 59)
  clear HM
  go_wp2_with fail
  with_reducible refine (HW.out _).mono ?_
  rintro e w2 ⟨rfl, hb3⟩
  have hb4 := hb2.trans (hb3.mono hb2.size)
  clear HW
  go_wp2
  go_ret
  exact ⟨rfl, hb4⟩

set_option maxRecDepth 100000 in
set_option maxHeartbeats 1000000 in
theorem combFinds_long (A A2 : Option Addr) (c n2 c2 : Nat) (l : List Int) (w : World) (hr : IRow w w.heap.size A l) (hcap : l.length ≤ c) (hg : En.good l = true) (hs : l.length ≤ 4096) (hf : En.most l < 1024) (hl : 150 < l.length) :
    Calls Try.prog 10 #[.slice A l.length c, .slice A2 n2 c2] w fun e w' => e = .returned (.bool true) ∧ Below w.heap.size w w' := by
  have HM := Lib.hid (combMake_in A c l w hr hcap hg hs hf)
  have HW := Lib.hid (fun W => combsK_any W)
  have hz : (150 : Int) < (l.length : Int) := by omega
  clear hr hf hg
  generalize hN : l.length = N at *
  generalize En.most l + 2 = M at *
  clear hN
  go_enter Try.func10, Try.ntmps10
  go_wp2_with fail
  with_reducible refine HM.out.mono ?_
  rintro e w1 ⟨E, L, S, cE, cL, cS, rfl, _, _, _, hb1⟩
  have hb2 := hb1.alloc hb1.size (.cells #[.slice E N cE, .int .i64 N, .int .i64 10, .slice L 10 cL, .slice S M cS] 59)
  clear HM
  go_wp2_with fail
  with_reducible refine (HW.out _).mono ?_
  rintro e w2 ⟨rfl, hb3⟩
  have hb4 := hb2.trans (hb3.mono hb2.size)
  clear HW
  go_wp2
  go_ret
  exact ⟨rfl, hb4⟩

/-- how many of the first k -/
def kkN (l s : List Int) (k : Nat) : Nat := ((List.range k).filter (En.stands l s)).length
theorem kkN_succ (l s : List Int) (k : Nat) : kkN l s (k + 1) = kkN l s k + if En.stands l s k = true then 1 else 0 := by
  unfold kkN
  rw [List.range_succ, List.filter_append, List.length_append, List.filter_cons, List.filter_nil]
  split <;> rfl
theorem filter_get (Q : Nat → Bool) (k : Nat) : ∀ n, k < n → Q k = true → ((List.range n).filter Q).getD (((List.range k).filter Q).length) 0 = k ∧ ((List.range k).filter Q).length < ((List.range n).filter Q).length
  | 0, h, _ => absurd h (by omega)
  | n + 1, h, hQ => by
    rw [List.range_succ, List.filter_append, List.length_append]
    by_cases hk : k = n
    · subst hk
      rw [List.filter_cons, if_pos hQ, List.filter_nil]
      refine ⟨?_, by simp⟩
      simp
    · obtain ⟨h1, h2⟩ := filter_get Q k n (by omega) hQ
      refine ⟨?_, by omega⟩
      rw [List.getD_eq_getElem?_getD, List.getElem?_append_left h2, ← List.getD_eq_getElem?_getD]
      exact h1
theorem kkN_at (l s : List Int) (k : Nat) (hk : k < l.length) (h : En.stands l s k = true) : (En.plc l s).getD (kkN l s k) 0 = k ∧ kkN l s k < (En.plc l s).length := filter_get (En.stands l s) k l.length hk h
theorem kkN_end (l s : List Int) : kkN l s l.length = (En.plc l s).length := rfl
theorem kkN_le (l s : List Int) (k : Nat) : kkN l s k ≤ k := Nat.le_trans (List.length_filter_le _ _) (by simp)

/-- do signs stand, as far as has been looked? -/
def Looked (l s : List Int) (p i : Nat) (b : Bool) : Prop := if b = true then p + s.length ≤ l.length ∧ ∀ j, j < i → l.getD (p + j) 0 = s.getD j 0 else En.stands l s p = false
theorem stands_all (l s : List Int) (p : Nat) (hp : p ≤ l.length) : En.stands l s p = true ↔ p + s.length ≤ l.length ∧ ∀ j, j < s.length → l.getD (p + j) 0 = s.getD j 0 := by
  induction s generalizing p with
  | nil => simp [En.stands]; omega
  | cons x s ih =>
    by_cases h : p < l.length
    · rw [En.stands_cons l s x p h, Bool.and_eq_true, decide_eq_true_eq, ih (p + 1) (by omega)]
      constructor
      · rintro ⟨h1, h2, h3⟩
        refine ⟨by simp only [List.length_cons]; omega, fun j hj => ?_⟩
        cases j with
        | zero => simpa using h1
        | succ j =>
          have := h3 j (by simpa using hj)
          rw [show p + (j + 1) = p + 1 + j from by omega, this]
          rfl
      · rintro ⟨h1, h2⟩
        simp only [List.length_cons] at h1
        refine ⟨by simpa using h2 0 (by simp), by omega, fun j hj => ?_⟩
        have := h2 (j + 1) (by simpa using hj)
        rw [show p + 1 + j = p + (j + 1) from by omega, this]
        rfl
    · obtain rfl : p = l.length := by omega
      simp [En.stands]
      intro h3
      omega
theorem Looked.start (l s : List Int) (p : Nat) (hp : p ≤ l.length) : Looked l s p 0 (decide (p + s.length ≤ l.length)) := by
  unfold Looked
  by_cases h : p + s.length ≤ l.length
  · rw [if_pos (by simpa using h)]; exact ⟨h, fun j hj => absurd hj (by omega)⟩
  · rw [if_neg (by simpa using h)]
    cases hs : En.stands l s p
    · rfl
    · exact absurd ((stands_all l s p hp).1 hs).1 h
theorem Looked.step {l s : List Int} {p i : Nat} (h : Looked l s p i true) (hp : p ≤ l.length) (hi : i < s.length) : Looked l s p (i + 1) (l.getD (p + i) 0 == s.getD i 0) := by
  unfold Looked at h ⊢
  rw [if_pos rfl] at h
  by_cases he : l.getD (p + i) 0 = s.getD i 0
  · rw [if_pos (by simpa using he)]
    refine ⟨h.1, fun j hj => ?_⟩
    by_cases e : j = i
    · rw [e]; exact he
    · exact h.2 j (by omega)
  · rw [if_neg (by simpa using he)]
    cases hs : En.stands l s p
    · rfl
    · exact absurd (((stands_all l s p hp).1 hs).2 i hi) he
theorem Looked.yes {l s : List Int} {p : Nat} (h : Looked l s p s.length true) (hp : p ≤ l.length) : En.stands l s p = true := by
  unfold Looked at h
  rw [if_pos rfl] at h
  exact (stands_all l s p hp).2 h
theorem Looked.no {l s : List Int} {p i : Nat} (h : Looked l s p i false) : En.stands l s p = false := h
theorem Looked.fits {l s : List Int} {p i : Nat} (h : Looked l s p i true) : p + s.length ≤ l.length := by
  unfold Looked at h
  rw [if_pos rfl] at h
  exact h.1

/-- what the law looks at -/
structure LF (w : World) (B : Nat) (E L S : Option Addr) (cE cL cS N M : Nat) (A A2 X : Option Addr) (l s P : List Int) (W : World) : Prop where
  cb : CB w B E L S cE cL cS N M l W
  row : IRow W W.heap.size A l
  sg : IRow W W.heap.size A2 s
  pl : IRow W W.heap.size X P
theorem LF.on {w : World} {B : Nat} {E L S : Option Addr} {cE cL cS N M : Nat} {A A2 X : Option Addr} {l s P : List Int} {W W' : World} (h : LF w B E L S cE cL cS N M A A2 X l s P W) (hb : Below W.heap.size W W') : LF w B E L S cE cL cS N M A A2 X l s P W' :=
  ⟨h.cb.on hb, h.row.on hb, h.sg.on hb, h.pl.on hb⟩
theorem irow_at {W : World} {B : Nat} {A : Option Addr} {l : List Int} (h : IRow W B A l) (i : Nat) (hi : i < l.length) : ∃ b o, A = some ⟨b, o, none⟩ ∧ W.cell? ⟨b, o + i, none⟩ = some (.int .i64 (l.getD i 0)) := by
  obtain ⟨b, o, e, _, hc⟩ := h (by omega)
  exact ⟨b, o, e, hc i hi⟩

set_option maxRecDepth 100000 in
set_option maxHeartbeats 4000000 in
theorem combFinds_short (A A2 : Option Addr) (c c2 : Nat) (l s : List Int) (w : World) (hr : IRow w w.heap.size A l) (hr2 : IRow w w.heap.size A2 s) (hcap : l.length ≤ c) (hcap2 : s.length ≤ c2) (hg : En.good l = true) (hf : En.most l < 1024) (hl : l.length ≤ 150) (hs : s.length ≤ 17592186044416) :
    Calls Try.prog 10 #[.slice A l.length c, .slice A2 s.length c2] w fun e w' => e = .returned (.bool true) ∧ Below w.heap.size w w' := by
  have HM := Lib.hid (combMake_in A c l w hr hcap hg (by omega) hf)
  have HW := Lib.hid (fun W => combsK_any W)
  have hz : ¬ ((150 : Int) < (l.length : Int)) := by omega
  have HrA : Hid (∀ W, Below w.heap.size w W → IRow W W.heap.size A l ∧ IRow W W.heap.size A2 s) := Lib.hid fun W hW => ⟨hr.on hW, hr2.on hW⟩
  have HP : Hid (∀ (w0 : World) (B : Nat) (E L S : Option Addr) (cE cL cS N M : Nat) W, CB w0 B E L S cE cL cS N M l W → IRow W W.heap.size A2 s → Calls Try.prog 51 #[.agg #[.slice E N cE, .int .i64 N, .int .i64 10, .slice L 10 cL, .slice S M cS], .slice A2 s.length c2] W fun e w' => ∃ X cx, e = .returned (.slice X (En.plc l s).length cx) ∧ IRow w' w'.heap.size X (up (En.plc l s)) ∧ Below W.heap.size W w' ∧ CB w0 B E L S cE cL cS N M l w') :=
    Lib.hid fun w0 B E L S cE cL cS N M W hW h2 => hW.placesS A2 s.length c2 s rfl h2 hcap2 hs
  have HC : Hid (∀ (w0 : World) (B : Nat) (E L S : Option Addr) (cE cL cS N M : Nat) W, CB w0 B E L S cE cL cS N M l W → IRow W W.heap.size A2 s → Calls Try.prog 52 #[.agg #[.slice E N cE, .int .i64 N, .int .i64 10, .slice L 10 cL, .slice S M cS], .slice A2 s.length c2] W fun e w' => e = .returned (.int .i64 ((En.plc l s).length : Nat)) ∧ CB w0 B E L S cE cL cS N M l w') :=
    Lib.hid fun w0 B E L S cE cL cS N M W hW h2 => hW.countS A2 s.length c2 s rfl h2 hcap2 hs
  have HK0 : Hid (kkN l s 0 = 0) := Lib.hid rfl
  have HKs := Lib.hid (kkN_succ l s)
  have HKa := Lib.hid (kkN_at l s)
  have HKe := Lib.hid (kkN_end l s)
  have HKl := Lib.hid (kkN_le l s)
  have HU : Hid ((up (En.plc l s)).length = (En.plc l s).length) := Lib.hid (up_len _)
  have HUg : Hid (∀ i, (up (En.plc l s)).getD i 0 = (((En.plc l s).getD i 0 : Nat) : Int)) := Lib.hid fun i => by
    unfold up
    simp only [List.getD_eq_getElem?_getD, List.getElem?_map]
    cases (En.plc l s)[i]? <;> rfl
  have HLs : Hid (∀ p, p ≤ l.length → Looked l s p 0 (decide (p + s.length ≤ l.length))) := Lib.hid (Looked.start l s)
  have Hn : Hid (l.length = l.length) := Lib.hid rfl
  have HMo : Hid (En.most l + 2 = En.most l + 2) := Lib.hid rfl
  clear hr hr2 hf hg hcap hcap2
  generalize hN : l.length = N at *
  generalize hM2 : En.most l + 2 = M at *
  have HN := Lib.hid hN
  have HM2 := Lib.hid hM2
  clear hN hM2 Hn HMo
  generalize hn2 : s.length = n2 at *
  have HN2 := Lib.hid hn2
  clear hn2
  go_enter Try.func10, Try.ntmps10
  go_wp2_with fail
  with_reducible refine HM.out.mono ?_
  rintro e w1 ⟨E, L, S, cE, cL, cS, rfl, hE, hL, hC, hb1⟩
  have J0 : CB w w1.heap.size E L S cE cL cS N M l (w1.alloc (.cells #[.slice E N cE, .int .i64 N, .int .i64 10, .slice L 10 cL, .slice S M cS] 59)) := CB.start hC HN.out.symm HM2.out.symm hE hL hb1 59
  clear HM hC hb1 hE hL
  go_wp2_with fail
  with_reducible refine (HW.out _).mono ?_
  rintro e w2 ⟨rfl, hb2⟩
  have J1 := J0.on hb2
  clear HW J0 hb2
  generalize w1.heap.size = B at *
  have c0 := J1.c0
  have c1 := J1.c1
  have c2' := J1.c2
  have c3 := J1.c3
  have c4 := J1.c4
  have hrA := HrA.out w2 J1.old
  have HP1 := Lib.hid (HP.out w B E L S cE cL cS N M w2 J1 hrA.2)
  clear HP
  go_wp2_with fail
  with_reducible refine HP1.out.mono ?_
  rintro e w3 ⟨X, cx, rfl, hX, hb3, J2⟩
  have F3 : LF w B E L S cE cL cS N M A A2 X l s (up (En.plc l s)) w3 := ⟨J2, hrA.1.on hb3, hrA.2.on hb3, hX⟩
  clear HP1 J1 J2 hrA c0 c1 c2' c3 c4 hX hb3 HrA
  generalize (En.plc l s).length = m at *
  go_wp2
  go_loopw [8, 34] (fun s8 t W => ∃ p : Nat, p ≤ N ∧ t = .int .i64 p ∧ s8 = .int .i64 (kkN l s p : Nat) ∧ LF w B E L S cE cL cS N M A A2 X l s (up (En.plc l s)) W) (fun _ t _ => N - (intOf t).toNat)
  case atStart => exact ⟨0, Nat.zero_le _, rfl, by rw [HK0.out]; rfl, F3⟩
  case round =>
    clear F3
    obtain ⟨p, hp, rfl, rfl, F⟩ := hrel
    generalize wr = V at *
    by_cases hlt : p < N
    · have hlz : (p : Int) < (N : Int) := by omega
      have hL0 := HLs.out p hp
      have HKp := Lib.hid (HKs.out p)
      have HKq := Lib.hid (HKa.out p (by omega))
      have hkl := HKl.out p
      generalize kkN l s p = k at *
      generalize hk1 : kkN l s (p + 1) = k1 at *
      have HK1 := Lib.hid hk1
      clear hk1 HKs HKa HK0 HLs HKe
      by_cases hfit : p + n2 ≤ N
      · have hz1 : (p : Int) + (n2 : Int) ≤ (N : Int) := by omega
        rw [decide_eq_true hfit] at hL0
        have HL0 := Lib.hid hL0
        clear hL0
        go_wp2
        go_loopw [10, 11] (fun s10 s11 W => ∃ (b : Bool) (i : Nat), s10 = .bool b ∧ s11 = .int .i64 i ∧ i ≤ n2 ∧ Hid (Looked l s p i b) ∧ LF w B E L S cE cL cS N M A A2 X l s (up (En.plc l s)) W) (fun _ s11 _ => n2 - (intOf s11).toNat)
        case atStart => exact ⟨true, 0, rfl, rfl, Nat.zero_le _, HL0, F⟩
        case round =>
          clear F HL0
          obtain ⟨b, i, rfl, rfl, hi, HLk, F⟩ := hrel
          cases b with
          | false =>
            have hst := HLk.out.no
            have hk1 : k1 = k := by rw [HKp.out, if_neg (by rw [hst]; simp)]; rfl
            have HK2 := Lib.hid hk1
            clear hk1 hst HLk HKp HKq
            go_wp2
            go_roundw
            case rel => exact ⟨p + 1, by omega, by go_num, by rw [HK1.out, HK2.out], F⟩
            case measure => simp [intOf]; omega
          | true =>
            by_cases hi2 : i < n2
            · have hi3 : (i : Int) < (n2 : Int) := by omega
              obtain ⟨b1, o1, rfl, d1⟩ := irow_at F.row (p + i) (by rw [HN.out]; omega)
              obtain ⟨b2, o2, rfl, d2⟩ := irow_at F.sg i (by rw [HN2.out]; exact hi2)
              have HLn := Lib.hid (HLk.out.step (by rw [HN.out]; omega) (by rw [HN2.out]; exact hi2))
              have v1 : IntKind.i64.wrap ((p : Int) + (i : Int)) = (p : Int) + (i : Int) := w64 _ (by omega) (by omega)
              have v2 : ((p : Int) + (i : Int)).toNat = p + i := by omega
              have v3 : (0 : Int) ≤ (p : Int) + (i : Int) := by omega
              have v4 : (p : Int) + (i : Int) < (N : Int) := by omega
              clear HLk HKp HKq
              generalize l.getD (p + i) 0 = x at *
              generalize s.getD i 0 = y at *
              go_wp2
              go_quiet (fail)
              clear v1 v2 v3 v4
              go_wp2
              go_roundw
              case rel => exact ⟨x == y, i + 1, rfl, by go_num, by omega, HLn, F.on (Below.drewN (Below.refl _ _) _)⟩
              case measure => simp [intOf]; omega
            · obtain rfl : i = n2 := by omega
              have hst := (show Looked l s p s.length true from by rw [HN2.out]; exact HLk.out).yes (by rw [HN.out]; omega)
              obtain ⟨q1, q2⟩ := HKq.out hst
              have hk1 : k1 = k + 1 := by rw [HKp.out, if_pos hst]
              have HK2 := Lib.hid hk1
              obtain ⟨b1, o1, rfl, d1⟩ := irow_at F.pl k (by rw [HU.out]; exact q2)
              rw [HUg.out, q1] at d1
              have q3 : ¬ ((m : Int) ≤ (k : Int)) := by omega
              have q4 : (k : Int) < (m : Int) := by omega
              have hne : ((p : Int) != (p : Int)) = false := by simp
              clear hk1 hst HLk HKp HKq q1
              go_wp2
              go_roundw
              case rel => exact ⟨p + 1, by omega, by go_num, by rw [HK1.out, HK2.out]; go_num, F⟩
              case measure => simp [intOf]; omega
      · have hz1 : ¬ ((p : Int) + (n2 : Int) ≤ (N : Int)) := by omega
        rw [decide_eq_false hfit] at hL0
        have hst := hL0.no
        have hk1 : k1 = k := by rw [HKp.out, if_neg (by rw [hst]; simp)]; rfl
        have HK2 := Lib.hid hk1
        clear hk1 hst hL0 HKp HKq
        go_wp2
        go_loopw [10, 11] (fun s10 _ W => s10 = .bool false ∧ LF w B E L S cE cL cS N M A A2 X l s (up (En.plc l s)) W) (fun _ _ _ => 0)
        case atStart => exact ⟨rfl, F⟩
        case round =>
          clear F
          obtain ⟨rfl, F⟩ := hrel
          go_wp2
          go_roundw
          case rel => exact ⟨p + 1, by omega, by go_num, by rw [HK1.out, HK2.out], F⟩
          case measure => simp [intOf]; omega
    · obtain rfl : p = N := by omega
      rw [HKe.out]
      have HC1 := Lib.hid (HC.out w B E L S cE cL cS p M V F.cb F.sg)
      have c0 := F.cb.c0
      have c1 := F.cb.c1
      have c2' := F.cb.c2
      have c3 := F.cb.c3
      have c4 := F.cb.c4
      clear HC HKs HKa HKe HKl HLs F
      go_wp2_with fail
      with_reducible refine HC1.out.mono ?_
      rintro e w9 ⟨rfl, J9⟩
      have hold := J9.old
      clear HC1 J9 c0 c1 c2' c3 c4
      go_wp2
      go_ret
      exact ⟨by simp, hold⟩

end Go.Proofs.Ytelapijdpcoekaa
