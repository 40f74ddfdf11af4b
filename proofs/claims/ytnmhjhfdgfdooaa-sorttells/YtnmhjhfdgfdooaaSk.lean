/- sort.Alike: what it answers, of whatever ends. -/
import Derived.Test.YtnmhjhfdgfdooaaSj
namespace Go.Proofs.Ytnmhjhfdgfdooaa
open Go.RowKit

/-- a call that hands back numbers in a row, and leaves what was -/
def Ints (w : World) (L : List Int) (e : Ending) (w' : World) : Prop := ∃ A c, e = .returned (.slice A L.length c) ∧ IRow w' w'.heap.size A L ∧ Below w.heap.size w w'

/-- the ends as numbers -/
def endsI (l : List Int) : List Int := (En.endsOf l).map fun (i : Nat) => (i : Int)
theorem endsI_length (l : List Int) : (endsI l).length = l.length := by simp [endsI, En.endsOf_length]
theorem endsI_get (l : List Int) (i : Nat) : (endsI l).getD i 0 = ((En.eat l i : Nat) : Int) := by
  unfold endsI En.eat
  by_cases h : i < (En.endsOf l).length
  · simp [h]
  · simp [h]
theorem endsI_places (l : List Int) (i : Nat) : places (En.endsOf l) i = .int .i64 ((endsI l).getD i 0) := by rw [endsI_get]
/-- what Alike answers -/
def alikeL (l es : List Int) : List Int := if es = endsI l then En.alikeOf l else []

theorem row_of_rowIs {w : World} {b : Nat} {t : TypeId} {n : Nat} {f : Nat → Value} (h : w.rowIs b t n f) : Row w w.heap.size (some ⟨b, 0, none⟩) n f := Row.of_rowIs h h.lt

theorem ends_ints (A : Option Addr) (c : Nat) (l : List Int) (w : World) (hr : IRow w w.heap.size A l) (hn : l.length ≤ 17592186044416) :
    Calls Try.prog 22 #[.slice A l.length c] w (Ints w (endsI l)) :=
  (ends_any A l.length c l w hr rfl hn).mono fun e w' ⟨g, h1, _, h3, h4⟩ => ⟨some ⟨g, 0, none⟩, l.length, by rw [h1, endsI_length], by
    show Row w' w'.heap.size _ (endsI l).length _
    rw [endsI_length]
    exact (row_of_rowIs h3).congr (fun i _ => endsI_places l i), h4⟩

theorem equal_ints (A B : Option Addr) (cn cm : Nat) (a b : List Int) (w : World) (ha : IRow w w.heap.size A a) (hb : IRow w w.heap.size B b) (hn : a.length ≤ 9223372036854775807) :
    Calls Try.prog 40 #[.slice A a.length cn, .slice B b.length cm] w fun e w' => e = .returned (.bool (decide (a = b))) ∧ ∃ q, w' = w.drewN q :=
  (equal_any A B a.length cn b.length cm (fun k => a.getD k 0) (fun k => b.getD k 0) w ha hb hn).mono fun e w' ⟨r, h1, h2, h3⟩ => ⟨by
    rw [h1]
    congr 1
    congr 1
    rw [Bool.eq_iff_iff, decide_eq_true_eq, h2]
    constructor
    · rintro ⟨e1, e2⟩
      apply List.ext_getElem e1
      intro i hi hj
      have := e2 i hi
      simpa [hi, hj] using this
    · rintro rfl
      exact ⟨rfl, fun _ _ => rfl⟩, h3⟩

/-- where each end stands, so far -/
def WhereUp (E : Nat → Nat) (k : Nat) (f : Nat → Nat) : Prop := ∀ i, i < k → f (E i) = i
/-- what is alike, so far -/
def AlikeUp (H wh : Nat → Nat) (k : Nat) (f : Nat → Nat) : Prop := f 0 = 0 ∧ ∀ e, e < k → f (wh e) = H (wh e)

theorem inCommon_ends (A : Option Addr) (c : Nat) (l : List Int) (e b k0 : Nat) (w : World) (hr : IRow w w.heap.size A l) (hn : l.length ≤ 17592186044416) (he : e < l.length) (hb : b < l.length) (hk : k0 ≤ En.lcp (l.drop b) (l.drop e)) :
    Calls Try.prog 50 #[.slice A l.length c, .int .i64 e, .int .i64 b, .int .i64 k0] w fun x w' => x = .returned (.int .i64 (En.lcp (l.drop b) (l.drop e) : Nat)) ∧ ∃ q, w' = w.drewN q := by
  rw [En.lcp_comm] at hk ⊢
  have hl := (En.lcp_le (l.drop e) (l.drop b)).1
  rw [List.length_drop] at hl
  exact inCommon_any A l.length c (fun k => l.getD k 0) e b k0 _ w hr (by omega) (by omega) (by omega) hk (by omega) (fun j hj => En.lcp_more l e b j hj (by omega) (by omega))

set_option maxHeartbeats 2000000 in
theorem alike_no (A A2 : Option Addr) (c c2 : Nat) (l es : List Int) (w : World) (hr : IRow w w.heap.size A l) (hr2 : IRow w w.heap.size A2 es) (hn : l.length ≤ 17592186044416) (hm : es.length ≤ 9223372036854775807) (hne : es ≠ endsI l) :
    Calls Try.prog 27 #[.slice A l.length c, .slice A2 es.length c2] w (Ints w []) := by
  have HE := Lib.hid (ends_ints A c l w hr hn)
  have HQ := Lib.hid (show ∀ (w' : World) (B : Option Addr) (cm : Nat), IRow w' w'.heap.size B (endsI l) → Below w.heap.size w w' → Calls Try.prog 40 #[.slice A2 es.length c2, .slice B (endsI l).length cm] w' fun e w'' => e = .returned (.bool false) ∧ ∃ q, w'' = w'.drewN q from
    fun w' B cm hB hb => by
      have := equal_ints A2 B c2 cm es (endsI l) w' (hr2.on hb) hB hm
      rwa [show decide (es = endsI l) = false from by simp [hne]] at this)
  clear hr hr2 hne
  generalize l.length = n at *
  generalize es.length = m at *
  go_enter Try.func27, Try.ntmps27
  go_wp2_with fail
  with_reducible refine HE.out.mono ?_
  rintro e w1 ⟨B, cm, rfl, h1, h2⟩
  have HC := Lib.hid (HQ.out w1 B cm h1 h2)
  generalize (endsI l).length = n2 at *
  clear HE HQ h1
  go_wp2_with fail
  with_reducible refine HC.out.mono ?_
  rintro e w2 ⟨rfl, q, rfl⟩
  clear HC
  go_wp2
  go_ret
  exact ⟨none, 0, rfl, Row.zero, Below.drewN h2 q⟩

set_option maxHeartbeats 2000000 in
theorem alike_yes (A A2 : Option Addr) (c c2 : Nat) (l : List Int) (w : World) (hr : IRow w w.heap.size A l) (hr2 : IRow w w.heap.size A2 (endsI l)) (hn : l.length ≤ 17592186044416) :
    Calls Try.prog 27 #[.slice A l.length c, .slice A2 l.length c2] w (Ints w (En.alikeOf l)) := by
  have HE := Lib.hid (ends_ints A c l w hr hn)
  have HQ := Lib.hid (show ∀ (w' : World) (B : Option Addr) (cm : Nat), IRow w' w'.heap.size B (endsI l) → Below w.heap.size w w' → Calls Try.prog 40 #[.slice A2 l.length c2, .slice B l.length cm] w' fun e w'' => e = .returned (.bool true) ∧ ∃ q, w'' = w'.drewN q from
    fun w' B cm hB hb => by
      have := equal_ints A2 B c2 cm (endsI l) (endsI l) w' (hr2.on hb) hB (by rw [endsI_length]; omega)
      rwa [show decide (endsI l = endsI l) = true from by simp, endsI_length] at this)
  have HI := Lib.hid (fun (W : World) (hb : Below w.heap.size w W) e b k0 he hb' hk => inCommon_ends A c l e b k0 W (hr.on hb) hn he hb' hk)
  have HEr : Hid (∀ W : World, Below w.heap.size w W → Row W w.heap.size A2 l.length (fun i => .int .i64 ((En.eat l i : Nat) : Int))) := Lib.hid fun W hb => by
    have h := hr2.below hb
    unfold IRow at h
    rw [endsI_length] at h
    exact h.congr (fun i _ => by rw [endsI_get])
  have Hlt : Hid (∀ i, i < l.length → En.eat l i < l.length) := Lib.hid (En.eat_lt l)
  have Hinj : Hid (∀ i j, i < l.length → j < l.length → En.eat l i = En.eat l j → i = j) := Lib.hid (En.eat_inj l)
  have Hon : Hid (∀ a, a < l.length → ∃ i, i < l.length ∧ En.eat l i = a) := Lib.hid (En.eat_onto l)
  have Halk : Hid (∀ i, i ≠ 0 → En.alk l i = En.lcp (l.drop (En.eat l (i - 1))) (l.drop (En.eat l i))) := Lib.hid fun i hi => by unfold En.alk; rw [if_neg hi]
  have Halk0 : Hid (En.alk l 0 = 0) := Lib.hid (by unfold En.alk; rw [if_pos rfl])
  have Hnext : Hid (∀ i j, i < l.length → j < l.length → En.eat l j = En.eat l i + 1 → En.alk l i - 1 ≤ En.alk l j) := Lib.hid (En.alk_next l)
  have Hale : Hid (∀ i, En.alk l i ≤ l.length) := Lib.hid (En.alk_le l)
  have HR : Hid (∀ (g : Nat) (al : Nat → Nat) (W : World), (∀ i, i < l.length → al i = En.alk l i) → W.rowIs g 3 l.length (fun i => .int .i64 (al i : Nat)) → Below w.heap.size w W → Ints w (En.alikeOf l) (.returned (.slice (some ⟨g, 0, none⟩) l.length l.length)) W) := Lib.hid fun g al W h1 h2 h3 => by
    have e : (En.alikeOf l).length = l.length := by simp [En.alikeOf]
    refine ⟨some ⟨g, 0, none⟩, l.length, by rw [e], ?_, h3⟩
    unfold IRow
    rw [e]
    exact (row_of_rowIs h2).congr (fun i hi => by rw [h1 i hi]; simp [En.alikeOf, hi])
  have hmk := run_make_row' (P := Try.prog) 25 3 (.int .i64 0) 8 Try.underlying25 infoInt' rfl .i64 .i64 l.length (by omega) (by omega)
  clear hr hr2
  generalize hE : En.eat l = E at *
  generalize hH : En.alk l = H at *
  clear hE hH
  generalize hnn : l.length = n at *
  have Hnn := Lib.hid hnn
  clear hnn
  go_enter Try.func27, Try.ntmps27
  go_wp2_with fail
  with_reducible refine HE.out.mono ?_
  rintro e w1 ⟨B, cm, rfl, h1, h2⟩
  have HC := Lib.hid (HQ.out w1 B cm h1 h2)
  have hB2 := Below.drewN h2
  rw [endsI_length, Hnn.out]
  clear HE HQ h1
  go_wp2_with fail
  with_reducible refine HC.out.mono ?_
  rintro e w2 ⟨rfl, q, rfl⟩
  have hB3 := hB2 q
  obtain ⟨w2, hw2⟩ : ∃ w2, w2 = w1.drewN q := ⟨_, rfl⟩
  rw [← hw2] at hB3 ⊢
  clear HC hB2 h2 hw2
  have hrow := World.rowIs_made w2 (.int .i64 0) n 3
  have hbel : Below w.heap.size w (w2.alloc (.cells (madeCells #[.int .i64 0] n) 3)) := hB3.alloc hB3.size _
  have hsz := hB3.size
  go_wp2
  go_loopw [22] (fun s W => ∃ (k : Nat) (f : Nat → Nat), k ≤ n ∧ s = .int .i64 k ∧ Hid (WhereUp E k f) ∧ W.rowIs w2.heap.size 3 n (fun j => .int .i64 (f j : Nat)) ∧ Below w.heap.size w W) (fun s _ => n - (intOf s).toNat)
  case atStart => exact ⟨0, fun _ => 0, Nat.zero_le _, rfl, (fun i hi => absurd hi (by omega) : WhereUp E 0 fun _ => 0), hrow, hbel⟩
  case round =>
    obtain ⟨k, f, hk, rfl, I, hrf, hbf⟩ := hrel
    by_cases hlt : k < n
    · clear hmk hrow hbel
      obtain ⟨b, o, rfl, hbb, hc⟩ := HEr.out wr hbf (by omega)
      have hc1 : wr.cell? ⟨b, o + k, none⟩ = some (.int .i64 ((E k : Nat) : Int)) := hc k hlt
      have hl1 := Hlt.out k hlt
      have d1 : wr.cell? ⟨w2.heap.size, E k, none⟩ = some (.int .i64 ((f (E k) : Nat) : Int)) := hrf.cell hl1
      have fz := hrf.frozen (E k)
      have hz : (k : Int) < (n : Int) := by omega
      have hz2 : ((E k : Nat) : Int) < (n : Int) := by omega
      have hr1 := (hrf.set (E k) (.int .i64 k)).congr (g := fun j => .int .i64 ((if j = E k then k else f j : Nat) : Int)) (fun i _ => by by_cases h : i = E k <;> simp [h])
      have hb1 := hbf.setCell (p := ⟨w2.heap.size, E k, none⟩) (by exact hsz) (.int .i64 k)
      have I2 : Hid (WhereUp E (k + 1) (fun j => if j = E k then k else f j)) := Lib.hid (fun i hi => by
        show (if E i = E k then k else f (E i)) = i
        by_cases e : E i = E k
        · rw [if_pos e]; exact (Hinj.out i k (by omega) hlt e).symm
        · rw [if_neg e]; exact I.out i (by have : i ≠ k := fun h => e (by rw [h]); omega))
      clear hc I
      generalize E k = p at *
      go_wp2
      go_roundw
      case rel => exact ⟨k + 1, _, by omega, by go_num, I2, hr1, hb1⟩
      case measure => simp [intOf]; omega
    · have hkn : k = n := by omega
      subst hkn
      generalize wr = V at *
      have HW : Hid (∀ i, i < k → f (E i) = i) := I
      clear I hrow hbel hB3
      have hrow := World.rowIs_made V (.int .i64 0) k 3
      have hbel := hbf.alloc hbf.size (.cells (madeCells #[.int .i64 0] k) 3)
      have hrf' := hrf.alloc (.cells (madeCells #[.int .i64 0] k) 3)
      have hszr := hbf.size
      have hflt := hrf.lt
      go_wp2
      go_loopw [9, 37] (fun s9 s W => ∃ (e cm : Nat) (al : Nat → Nat), e ≤ k ∧ s = .int .i64 e ∧ s9 = .int .i64 cm ∧ cm ≤ k ∧ Hid (0 < e → cm = H (f (e - 1))) ∧ Hid (e = 0 → cm = 0) ∧ Hid (AlikeUp H f e al) ∧ W.rowIs w2.heap.size 3 k (fun j => .int .i64 (f j : Nat)) ∧ W.rowIs V.heap.size 3 k (fun j => .int .i64 (al j : Nat)) ∧ Below w.heap.size w W) (fun _ s _ => k - (intOf s).toNat)
      case atStart => exact ⟨0, 0, fun _ => 0, Nat.zero_le _, rfl, rfl, Nat.zero_le _, (fun h => absurd h (by omega) : 0 < 0 → 0 = H (f (0 - 1))), (fun _ => rfl : 0 = 0 → 0 = 0), (⟨rfl, fun e he => absurd he (by omega)⟩ : AlikeUp H f 0 fun _ => 0), hrf', hrow, hbel⟩
      case round =>
        obtain ⟨e, cm, al, he, rfl, rfl, hcm, I1, I0, I2, hrw, hra, hbW⟩ := hrel
        clear hrow hbel hrf' hrf hmk
        by_cases hlt2 : e < k
        · obtain ⟨i, hi, hie⟩ := Hon.out e hlt2
          have hfe : f e = i := by rw [← hie]; exact HW.out i hi
          have d0 : wr.cell? ⟨w2.heap.size, e, none⟩ = some (.int .i64 ((f e : Nat) : Int)) := hrw.cell hlt2
          rw [hfe] at d0
          have hz : (e : Int) < (k : Int) := by omega
          by_cases hi0 : i = 0
          · subst hi0
            have J1 : Hid (0 < e + 1 → 0 = H (f (e + 1 - 1))) := Lib.hid (fun _ => by rw [Nat.add_sub_cancel, hfe]; exact Halk0.out.symm)
            have J2 : Hid (AlikeUp H f (e + 1) al) := Lib.hid ⟨I2.out.1, fun e' he' => by
              by_cases h : e' = e
              · rw [h, hfe, Halk0.out]; exact I2.out.1
              · exact I2.out.2 e' (by omega)⟩
            have J0 : Hid (e + 1 = 0 → 0 = 0) := Lib.hid (fun _ => rfl)
            clear I1 I0 I2 hfe
            go_wp2
            go_roundw
            case rel => exact ⟨e + 1, 0, al, by omega, by go_num, rfl, Nat.zero_le _, J1, J0, J2, hrw, hra, hbW⟩
            case measure => simp [intOf]; omega
          · obtain ⟨t, rfl⟩ : ∃ t, i = t + 1 := ⟨i - 1, by omega⟩
            obtain ⟨b, o, rfl, hbb, hc⟩ := HEr.out wr hbW (by omega)
            have hc1 : wr.cell? ⟨b, o + t, none⟩ = some (.int .i64 ((E t : Nat) : Int)) := hc t (by omega)
            have hEt := Hlt.out t (by omega)
            have hHi : H (t + 1) = En.lcp (l.drop (E t)) (l.drop e) := by rw [Halk.out (t + 1) (by omega), Nat.add_sub_cancel, hie]
            have hHle := Hale.out (t + 1)
            have hcmle : cm - 1 ≤ H (t + 1) := by
              by_cases he0 : e = 0
              · have := I0.out he0; omega
              · obtain ⟨i', hi', hie'⟩ := Hon.out (e - 1) (by omega)
                have h1 := I1.out (by omega)
                rw [show f (e - 1) = i' from by rw [← hie']; exact HW.out i' hi'] at h1
                have h2 := Hnext.out i' (t + 1) hi' hi (by rw [hie, hie']; omega)
                omega
            have HC := Lib.hid (HI.out wr hbW e (E t) (cm - 1) hlt2 hEt (by rw [← hHi]; exact hcmle))
            rw [← hHi] at HC
            have J1 : Hid (0 < e + 1 → H (t + 1) = H (f (e + 1 - 1))) := Lib.hid (fun _ => by rw [Nat.add_sub_cancel, hfe])
            have J0 : Hid (e + 1 = 0 → H (t + 1) = 0) := Lib.hid (fun h => absurd h (by omega))
            have J2 : Hid (AlikeUp H f (e + 1) (fun j => if j = t + 1 then H (t + 1) else al j)) := Lib.hid ⟨by
                show (if 0 = t + 1 then H (t + 1) else al 0) = 0
                rw [if_neg (by omega)]; exact I2.out.1, fun e' he' => by
              show (if f e' = t + 1 then H (t + 1) else al (f e')) = H (f e')
              by_cases h : f e' = t + 1
              · rw [if_pos h, h]
              · rw [if_neg h]
                exact I2.out.2 e' (by have : e' ≠ e := fun h' => h (by rw [h']; exact hfe); omega)⟩
            have hq : ∀ q, (wr.drewN q).rowIs w2.heap.size 3 k (fun j => .int .i64 (f j : Nat)) ∧ (wr.drewN q).rowIs V.heap.size 3 k (fun j => .int .i64 (al j : Nat)) ∧ Below w.heap.size w (wr.drewN q) := fun q => ⟨hrw, hra, Below.drewN hbW q⟩
            have HQ := Lib.hid hq
            clear hc I1 I0 I2 hfe hHi hq hrw hra hbW HEr HI
            have hz1 : (t : Int) + 1 < (k : Int) := by omega
            have hz2 : (t : Int) < (k : Int) := by omega
            generalize E t = p at *
            generalize H (t + 1) = h1 at *
            by_cases hc0 : cm = 0
            · subst hc0
              rw [show (0 - 1 : Nat) = 0 from rfl] at HC
              go_wp2_with fail
              rw [show (max (-1 : Int) 0) = ((0 : Nat) : Int) from by decide]
              with_reducible refine HC.out.mono ?_
              rintro x w5 ⟨rfl, q, rfl⟩
              obtain ⟨x1, x2, x3⟩ := HQ.out q
              generalize wr.drewN q = W5 at *
              clear HQ HC
              have d1 : W5.cell? ⟨V.heap.size, t + 1, none⟩ = some (.int .i64 ((al (t + 1) : Nat) : Int)) := x2.cell hi
              have fz := x2.frozen (t + 1)
              have y1 := x1.setOther (a := ⟨V.heap.size, t + 1, none⟩) (by simp; omega) (.int .i64 h1)
              have y2 := (x2.set (t + 1) (.int .i64 h1)).congr (g := fun j => .int .i64 ((if j = t + 1 then h1 else al j : Nat) : Int)) (fun i _ => by by_cases h : i = t + 1 <;> simp [h])
              have y3 := x3.setCell (p := ⟨V.heap.size, t + 1, none⟩) (by exact hszr) (.int .i64 h1)
              clear x1 x2 x3
              go_wp2
              go_roundw
              case rel => exact ⟨e + 1, h1, _, by omega, by go_num, rfl, hHle, J1, J0, J2, y1, y2, y3⟩
              case measure => simp [intOf]; omega
            · obtain ⟨c', rfl⟩ : ∃ c', cm = c' + 1 := ⟨cm - 1, by omega⟩
              rw [Nat.add_sub_cancel] at HC
              go_wp2_with fail
              with_reducible refine HC.out.mono ?_
              rintro x w5 ⟨rfl, q, rfl⟩
              obtain ⟨x1, x2, x3⟩ := HQ.out q
              generalize wr.drewN q = W5 at *
              clear HQ HC
              have d1 : W5.cell? ⟨V.heap.size, t + 1, none⟩ = some (.int .i64 ((al (t + 1) : Nat) : Int)) := x2.cell hi
              have fz := x2.frozen (t + 1)
              have y1 := x1.setOther (a := ⟨V.heap.size, t + 1, none⟩) (by simp; omega) (.int .i64 h1)
              have y2 := (x2.set (t + 1) (.int .i64 h1)).congr (g := fun j => .int .i64 ((if j = t + 1 then h1 else al j : Nat) : Int)) (fun i _ => by by_cases h : i = t + 1 <;> simp [h])
              have y3 := x3.setCell (p := ⟨V.heap.size, t + 1, none⟩) (by exact hszr) (.int .i64 h1)
              clear x1 x2 x3
              go_wp2
              go_roundw
              case rel => exact ⟨e + 1, h1, _, by omega, by go_num, rfl, hHle, J1, J0, J2, y1, y2, y3⟩
              case measure => simp [intOf]; omega
        · have hek : e = k := by omega
          subst hek
          have HA := HR.out V.heap.size al wr (fun i hi => by
            have := I2.out.2 (E i) (Hlt.out i hi)
            rw [HW.out i hi] at this
            exact this) hra hbW
          clear HR I1 I0 I2
          go_wp2
          go_ret
          exact HA

end Go.Proofs.Ytnmhjhfdgfdooaa
