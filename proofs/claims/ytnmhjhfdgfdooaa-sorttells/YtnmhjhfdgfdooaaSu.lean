/- What is alike, as the reference tells it. -/
import Derived.Test.YtnmhjhfdgfdooaaSt
import Derived.Test.YtnmhjhfdgfdooaaRs
import Derived.Test.YtnmhjhfdgfdooaaSn
namespace Go.Proofs.Ytnmhjhfdgfdooaa
open Go.RowKit

theorem sameInts_ints (A B : Option Addr) (cn cm : Nat) (a b : List Int) (w : World) (ha : IRow w w.heap.size A a) (hb : IRow w w.heap.size B b) (hn : a.length ≤ 9223372036854775807) :
    Calls Try.prog 23 #[.slice A a.length cn, .slice B b.length cm] w fun e w' => e = .returned (.bool (decide (a = b))) ∧ ∃ q, w' = w.drewN q :=
  (sameInts_any A B a.length cn b.length cm (fun k => a.getD k 0) (fun k => b.getD k 0) w ha hb hn).mono fun e w' ⟨r, h1, h2, h3⟩ => ⟨by
    rw [h1]
    congr 1
    congr 1
    rw [Bool.eq_iff_iff, decide_eq_true_eq, h2]
    constructor
    · rintro ⟨e1, e2⟩
      apply List.ext_getElem e1
      intro i hi hj
      have := e2 i hi
      simpa [hi, hj] using this
    · rintro rfl
      exact ⟨rfl, fun _ _ => rfl⟩, h3⟩

set_option maxHeartbeats 2000000 in
theorem alikeOf_no (A A2 : Option Addr) (c c2 : Nat) (l es : List Int) (w : World) (hr : IRow w w.heap.size A l) (hr2 : IRow w w.heap.size A2 es) (hn : l.length ≤ 17592186043904) (hm : es.length ≤ 9223372036854775807) (hne : es ≠ endsI l) :
    Calls Try.prog 28 #[.slice A l.length c, .slice A2 es.length c2] w (Ints w []) := by
  have HE := Lib.hid (endsOf_any A c l w hr hn)
  have HQ := Lib.hid (show ∀ (w' : World) (B : Option Addr) (cm : Nat), IRow w' w'.heap.size B (endsI l) → Below w.heap.size w w' → Calls Try.prog 23 #[.slice A2 es.length c2, .slice B (endsI l).length cm] w' fun e w'' => e = .returned (.bool false) ∧ ∃ q, w'' = w'.drewN q from
    fun w' B cm hB hb => by
      have := sameInts_ints A2 B c2 cm es (endsI l) w' (hr2.on hb) hB hm
      rwa [show decide (es = endsI l) = false from by simp [hne]] at this)
  clear hr hr2 hne
  generalize l.length = n at *
  generalize es.length = m at *
  go_enter Try.func28, Try.ntmps28
  go_wp2_with fail
  with_reducible refine HE.out.mono ?_
  rintro e w1 ⟨B, cm, rfl, h1, h2⟩
  have HC := Lib.hid (HQ.out w1 B cm h1 h2)
  generalize (endsI l).length = n2 at *
  clear HE HQ h1
  go_wp2_with fail
  with_reducible refine HC.out.mono ?_
  rintro e w2 ⟨rfl, q, rfl⟩
  clear HC
  go_wp2
  go_ret
  exact ⟨none, 0, rfl, Row.zero, Below.drewN h2 q⟩

/-- what is alike, of the first ends -/
def alkUp (H : Nat → Nat) (k : Nat) : List Int := (List.range k).map fun i => ((H i : Nat) : Int)
theorem alkUp_succ (H : Nat → Nat) (k : Nat) : alkUp H (k + 1) = alkUp H k ++ [((H k : Nat) : Int)] := by simp [alkUp, List.range_succ]
theorem alkUp_len (H : Nat → Nat) (k : Nat) : (alkUp H k).length = k := by simp [alkUp]

set_option maxHeartbeats 4000000 in
set_option maxRecDepth 100000 in
theorem alikeOf_yes (A A2 : Option Addr) (c c2 : Nat) (l : List Int) (w : World) (hr : IRow w w.heap.size A l) (hr2 : IRow w w.heap.size A2 (endsI l)) (hn : l.length ≤ 17592186043904) :
    Calls Try.prog 28 #[.slice A l.length c, .slice A2 l.length c2] w (Ints w (En.alikeOf l)) := by
  have HE := Lib.hid (endsOf_any A c l w hr hn)
  have HQ := Lib.hid (show ∀ (w' : World) (B : Option Addr) (cm : Nat), IRow w' w'.heap.size B (endsI l) → Below w.heap.size w w' → Calls Try.prog 23 #[.slice A2 l.length c2, .slice B l.length cm] w' fun e w'' => e = .returned (.bool true) ∧ ∃ q, w'' = w'.drewN q from
    fun w' B cm hB hb => by
      have := sameInts_ints A2 B c2 cm (endsI l) (endsI l) w' (hr2.on hb) hB (by rw [endsI_length]; omega)
      rwa [show decide (endsI l = endsI l) = true from by simp, endsI_length] at this)
  obtain ⟨f, hf⟩ : ∃ f : Nat → Int, f = fun k => l.getD k 0 := ⟨_, rfl⟩
  have Hp := Lib.hid (pair_of l)
  rw [← hf] at Hp
  have H0 : Hid (En.alk l 0 = 0) := Lib.hid (by unfold En.alk; rw [if_pos rfl])
  have Hale : Hid (∀ i, En.alk l i ≤ l.length) := Lib.hid (En.alk_le l)
  have HR : Hid (alkUp (En.alk l) l.length = En.alikeOf l) := Lib.hid rfl
  have HEr : Hid (∀ W : World, Below w.heap.size w W → ∀ i, i < l.length → ∃ b o, A2 = some ⟨b, o, none⟩ ∧ W.cell? ⟨b, o + i, none⟩ = some (.int .i64 ((En.eat l i : Nat) : Int)) ∧ ∀ j, j < i → W.cell? ⟨b, o + j, none⟩ = some (.int .i64 ((En.eat l j : Nat) : Int))) := Lib.hid fun W hb i hi => by
    have h := hr2.below hb
    unfold IRow at h
    rw [endsI_length] at h
    obtain ⟨b, o, e, _, hc⟩ := h (by omega)
    have hc' : ∀ i, i < l.length → W.cell? ⟨b, o + i, none⟩ = some (.int .i64 ((endsI l).getD i 0)) := hc
    exact ⟨b, o, e, by rw [hc' i hi, endsI_get], fun j hj => by rw [hc' j (by omega), endsI_get]⟩
  have HLr : Hid (∀ W : World, Below w.heap.size w W → 0 < l.length → ∃ b o, A = some ⟨b, o, none⟩ ∧ ∀ i, i < l.length → W.cell? ⟨b, o + i, none⟩ = some (.int .i64 (f i))) := Lib.hid fun W hb h0 => by
    obtain ⟨b, o, e, _, hc⟩ := (hr.below hb) h0
    exact ⟨b, o, e, fun i hi => by rw [hc i hi, hf]⟩
  clear hr hr2 hf
  generalize hE : En.eat l = E at *
  generalize hH : En.alk l = H at *
  clear hE hH
  generalize hnn : l.length = n at *
  have Hnn := Lib.hid hnn
  clear hnn
  go_enter Try.func28, Try.ntmps28
  go_wp2_with fail
  with_reducible refine HE.out.mono ?_
  rintro e w1 ⟨B, cm, rfl, h1, h2⟩
  have HC := Lib.hid (HQ.out w1 B cm h1 h2)
  have hB2 := Below.drewN h2
  rw [endsI_length, Hnn.out]
  clear HE HQ h1
  go_wp2_with fail
  with_reducible refine HC.out.mono ?_
  rintro e w2 ⟨rfl, q, rfl⟩
  have hB3 := hB2 q
  obtain ⟨w2, hw2⟩ : ∃ w2, w2 = w1.drewN q := ⟨_, rfl⟩
  rw [← hw2] at hB3 ⊢
  clear HC hB2 h2 hw2
  go_wp2
  go_loopw [5, 16] (fun s5 s W => ∃ k : Nat, k ≤ n ∧ s = .int .i64 k ∧ OL w (alkUp H k) s5 W) (fun _ s _ => n - (intOf s).toNat)
  case atStart => exact ⟨0, Nat.zero_le _, rfl, OL.nil w w2 hB3⟩
  case round =>
    obtain ⟨k, hk, rfl, J⟩ := hrel
    by_cases hlt : k < n
    · obtain ⟨b2, o2, rfl, hc2, hc3⟩ := HEr.out wr J.old k hlt
      obtain ⟨b0, o0, rfl, hc0⟩ := HLr.out wr J.old (by omega)
      have hz : (k : Int) < (n : Int) := by omega
      have hHk := Hale.out k
      have HApp : Hid (∀ q v' W', W'.ownsRow w.heap.size 3 1 v' (k + 1) ((alkUp H k).map (Value.int .i64) ++ [.int .i64 ((H k : Nat) : Int)]) → ((wr.drewN q).alloc (.cells #[.int .i64 ((H k : Nat) : Int)] 3)).grownBy W' u5.ownBlock → OL w (alkUp H (k + 1)) v' W') := Lib.hid fun q v' W' h1 h2 => by
        have J1 := J.on ((Below.drewN (Below.refl _ wr) q).alloc (Nat.le_refl _) (.cells #[.int .i64 ((H k : Nat) : Int)] 3))
        have := J1.app ((H k : Nat) : Int) (by rw [alkUp_len]; exact h1) h2
        rw [alkUp_succ]; exact this
      have HOwn : Hid (∀ q, ((wr.drewN q).alloc (.cells #[.int .i64 ((H k : Nat) : Int)] 3)).ownsRow w.heap.size 3 1 u5 k ((alkUp H k).map (Value.int .i64))) := Lib.hid fun q => by
        have J1 := J.on ((Below.drewN (Below.refl _ wr) q).alloc (Nat.le_refl _) (.cells #[.int .i64 ((H k : Nat) : Int)] 3))
        have := J1.own
        rw [alkUp_len] at this
        exact this
      have hmx : k + 1 ≤ maxLen := by unfold maxLen; omega
      have hsz := J.old.size
      generalize hx : ((H k : Nat) : Int) = x at *
      generalize wr = V at *
      clear HEr HLr Hale HR
      by_cases hk0 : k = 0
      · have hx0 : x = 0 := by rw [← hx, hk0, H0.out]; rfl
        subst hx0
        have hzk : ¬ (0 : Int) < (k : Int) := by omega
        have hzk2 : ¬ 0 < k := by omega
        have hzk3 : decide (0 < k) = false := by simp; omega
        clear hc3 hc0 J Hp hx hk0
        generalize E k = p at *
        go_wp2
        go_loopw [8] (fun s W => ∃ q : Nat, s = .int .i64 0 ∧ W = V.drewN q) (fun _ _ => 0)
        case atStart => exact ⟨0, rfl, rfl⟩
        case round =>
          obtain ⟨q, rfl, rfl⟩ := hrel
          go_wp2
          go_quiet (fail)
          go_wp2_with (at_builtin; refine wpList_app1 _ rfl _ _ 25 rfl w.heap.size 3 (.int .i64 0) 8 Try.underlying25 infoInt' rfl _ k ((alkUp H k).map (Value.int .i64)) rfl V.heap.size (.int .i64 0) rfl (HOwn.out _) (new1 _ _ _) (by simp) rfl hmx (by omega) (by simp; omega) ?_; intro v' w2 h2 h3 h4)
          have J3 := HApp.out _ v' w2 h2 h3
          go_roundw
          case rel => exact ⟨k + 1, by omega, by go_num, J3⟩
          case measure => simp [intOf]; omega
      · obtain ⟨t, rfl⟩ : ∃ t, k = t + 1 := ⟨k - 1, by omega⟩
        subst hx
        have P := Hp.out (t + 1) (by omega) hlt
        rw [Nat.add_sub_cancel] at P
        have hc4 := hc3 t (by omega)
        have HL := Lib.hid hc0
        clear hc3 hc0 J Hp hk0 H0
        generalize E (t + 1) = p at *
        generalize E t = was at *
        generalize hLL : H (t + 1) = L at *
        clear hLL
        obtain ⟨q1, q2, q3, q4, q5, q6⟩ := P
        have HS5 := Lib.hid q5
        have HS6 := Lib.hid q6
        clear q5 q6
        have y1 : (t : Int) < (n : Int) := by omega
        have y2 : (t : Int) + 1 < (n : Int) := by omega
        go_wp2
        go_loopw [8] (fun s W => ∃ j q : Nat, j ≤ L ∧ s = .int .i64 j ∧ W = V.drewN q) (fun s _ => L - (intOf s).toNat)
        case atStart => exact ⟨0, 0, Nat.zero_le _, rfl, rfl⟩
        case round =>
          obtain ⟨j, q, hj, rfl, rfl⟩ := hrel
          have v1 : IntKind.i64.wrap ((p : Int) + (j : Int)) = (p : Int) + (j : Int) := by simp [IntKind.wrap, IntKind.bits, IntKind.signed]; omega
          have v2 : IntKind.i64.wrap ((was : Int) + (j : Int)) = (was : Int) + (j : Int) := by simp [IntKind.wrap, IntKind.bits, IntKind.signed]; omega
          by_cases hjl : j < L
          · have f1 := HL.out (p + j) (by omega)
            have f2 := HL.out (was + j) (by omega)
            have f3 : (f (p + j) == f (was + j)) = true := by simp [HS5.out j hjl]
            have z1 : (p : Int) + (j : Int) < (n : Int) := by omega
            have z2 : (was : Int) + (j : Int) < (n : Int) := by omega
            clear HApp HOwn HS5 HS6 HL
            go_wp2
            go_quiet (fail)
            go_wp2
            go_roundw
            case rel => exact ⟨j + 1, _, by omega, by go_num, rfl⟩
            case measure => simp [intOf]; omega
          · have hjL : j = L := by omega
            subst hjL
            by_cases i1 : p + j < n
            · have z1 : (p : Int) + (j : Int) < (n : Int) := by omega
              by_cases i2 : was + j < n
              · have z2 : (was : Int) + (j : Int) < (n : Int) := by omega
                have f1 := HL.out (p + j) i1
                have f2 := HL.out (was + j) i2
                have f3 : (f (p + j) == f (was + j)) = false := by
                  have := (HS6.out i2).2
                  rw [Bool.eq_false_iff]; simp only [ne_eq, beq_iff_eq]; omega
                clear HS5 HS6 HL
                go_wp2
                go_quiet (fail)
                go_wp2_with (at_builtin; refine wpList_app1 _ rfl _ _ 25 rfl w.heap.size 3 (.int .i64 0) 8 Try.underlying25 infoInt' rfl _ (t + 1) ((alkUp H (t + 1)).map (Value.int .i64)) rfl V.heap.size (.int .i64 (j : Int)) rfl (HOwn.out _) (new1 _ _ _) (by simp) rfl hmx (by omega) (by simp; omega) ?_; intro v' w2 h2 h3 h4)
                have J3 := HApp.out _ v' w2 h2 h3
                go_roundw
                case rel => exact ⟨t + 2, by omega, by go_num, J3⟩
                case measure => simp [intOf]; omega
              · have z2 : (n : Int) ≤ (was : Int) + (j : Int) := by omega
                have z3 : decide ((was : Int) + (j : Int) < (n : Int)) = false := by simp; omega
                clear HS5 HS6 HL
                go_wp2
                go_quiet (fail)
                go_wp2_with (at_builtin; refine wpList_app1 _ rfl _ _ 25 rfl w.heap.size 3 (.int .i64 0) 8 Try.underlying25 infoInt' rfl _ (t + 1) ((alkUp H (t + 1)).map (Value.int .i64)) rfl V.heap.size (.int .i64 (j : Int)) rfl (HOwn.out _) (new1 _ _ _) (by simp) rfl hmx (by omega) (by simp; omega) ?_; intro v' w2 h2 h3 h4)
                have J3 := HApp.out _ v' w2 h2 h3
                go_roundw
                case rel => exact ⟨t + 2, by omega, by go_num, J3⟩
                case measure => simp [intOf]; omega
            · have z1 : (n : Int) ≤ (p : Int) + (j : Int) := by omega
              have z3 : decide ((p : Int) + (j : Int) < (n : Int)) = false := by simp; omega
              clear HS5 HS6 HL
              go_wp2
              go_quiet (fail)
              go_wp2_with (at_builtin; refine wpList_app1 _ rfl _ _ 25 rfl w.heap.size 3 (.int .i64 0) 8 Try.underlying25 infoInt' rfl _ (t + 1) ((alkUp H (t + 1)).map (Value.int .i64)) rfl V.heap.size (.int .i64 (j : Int)) rfl (HOwn.out _) (new1 _ _ _) (by simp) rfl hmx (by omega) (by simp; omega) ?_; intro v' w2 h2 h3 h4)
              have J3 := HApp.out _ v' w2 h2 h3
              go_roundw
              case rel => exact ⟨t + 2, by omega, by go_num, J3⟩
              case measure => simp [intOf]; omega
    · have hkn : k = n := by omega
      subst hkn
      have HO := Lib.hid J.ints
      rw [HR.out] at HO
      go_wp2
      go_ret
      exact HO.out

end Go.Proofs.Ytnmhjhfdgfdooaa
