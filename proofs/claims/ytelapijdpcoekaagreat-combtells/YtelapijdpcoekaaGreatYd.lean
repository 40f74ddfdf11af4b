/- The reference's SpanOf. -/
import Derived.Test.YtelapijdpcoekaaGreatYa
namespace Go.Proofs.YtelapijdpcoekaaGreat
open Go.RowKit
attribute [local irreducible] Bt.pop Bt.popF

/-- two numbers; the span as far as the first i ends tell it -/
def spI (a b : Int) : Nat → Value := fun j => if j = 0 then .int .i64 a else .int .i64 b
def soF (f t i : Nat) : Int := if f < t ∧ f < i then (f : Int) else -1
def soT (f t i : Nat) : Int := if f < t ∧ f < i then ((min i t : Nat) : Int) else 0
theorem so_no (f t i : Nat) (h : ¬ (f ≤ i ∧ i < t)) : soF f t (i + 1) = soF f t i ∧ soT f t (i + 1) = soT f t i := by
  unfold soF soT
  by_cases h1 : f < t ∧ f < i
  · rw [if_pos h1, if_pos h1, if_pos (by omega), if_pos (by omega)]
    refine ⟨rfl, ?_⟩
    congr 1
    omega
  · rw [if_neg h1, if_neg h1, if_neg (by omega), if_neg (by omega)]
    exact ⟨rfl, rfl⟩
theorem so_first (f t i : Nat) (h : f ≤ i ∧ i < t) (h0 : soF f t i < 0) : soF f t (i + 1) = (i : Int) ∧ soT f t (i + 1) = (i : Int) + 1 := by
  unfold soF at h0
  by_cases h1 : f < t ∧ f < i
  · rw [if_pos h1] at h0; omega
  · unfold soF soT
    rw [if_pos (by omega), if_pos (by omega)]
    omega
theorem so_more (f t i : Nat) (h : f ≤ i ∧ i < t) (h0 : ¬ soF f t i < 0) : soF f t (i + 1) = soF f t i ∧ soT f t (i + 1) = (i : Int) + 1 := by
  unfold soF at h0
  by_cases h1 : f < t ∧ f < i
  · have h2 : f < t ∧ f < i + 1 := by omega
    clear h0
    unfold soF soT
    constructor
    · rw [if_pos h2, if_pos h1]
    · rw [if_pos h2]; omega
  · rw [if_neg h1] at h0; omega
theorem spn_form (l s : List Int) : En.spn l s = (0, 0) ∨ (En.spn l s).1 < (En.spn l s).2 := by
  unfold En.spn
  split
  · right; assumption
  · left; rfl

/-- the span in the making, the span that is to be handed back, the ends -/
structure SO (w : World) (F T : Int) (L : List Int) (v : Value) (W : World) : Prop where
  row : W.rowIs (w.heap.size + 1) 33 2 (spI F T)
  res : W.rowIs w.heap.size 33 2 (spF 0 0)
  own : W.ownsRow (w.heap.size + 2) 3 1 v L.length (L.map (Value.int .i64))
  old : Below w.heap.size w W
section
variable {w : World} {F T : Int} {L : List Int} {v : Value} {W W' : World}
theorem SO.on (h : SO w F T L v W) (hb : Below W.heap.size W W') : SO w F T L v W' :=
  ⟨h.row.of_block (hb.block _ h.row.lt), h.res.of_block (hb.block _ h.res.lt), own_below h.own hb, h.old.trans (hb.mono h.old.size)⟩
theorem SO.c0 (h : SO w F T L v W) : W.cell? ⟨w.heap.size + 1, 0, none⟩ = some (.int .i64 F) := h.row.cell (i := 0) (by omega)
theorem SO.c1 (h : SO w F T L v W) : W.cell? ⟨w.heap.size + 1, 1, none⟩ = some (.int .i64 T) := h.row.cell (i := 1) (by omega)
theorem SO.set0 (h : SO w F T L v W) (x : Int) : SO w x T L v (W.setCell ⟨w.heap.size + 1, 0, none⟩ (.int .i64 x)) :=
  ⟨(h.row.set 0 _).congr (fun i hi => by
    match i, hi with
    | 0, _ => rfl
    | 1, _ => rfl), h.res.setOther (a := ⟨w.heap.size + 1, 0, none⟩) (by simp) _, ownsRow_setCell_below h.own (a := ⟨w.heap.size + 1, 0, none⟩) (by simp) _, h.old.setCell (p := ⟨w.heap.size + 1, 0, none⟩) (by simp) _⟩
theorem SO.set1 (h : SO w F T L v W) (x : Int) : SO w F x L v (W.setCell ⟨w.heap.size + 1, 1, none⟩ (.int .i64 x)) :=
  ⟨(h.row.set 1 _).congr (fun i hi => by
    match i, hi with
    | 0, _ => rfl
    | 1, _ => rfl), h.res.setOther (a := ⟨w.heap.size + 1, 1, none⟩) (by simp) _, ownsRow_setCell_below h.own (a := ⟨w.heap.size + 1, 1, none⟩) (by simp) _, h.old.setCell (p := ⟨w.heap.size + 1, 1, none⟩) (by simp) _⟩
theorem SO.end_ (h : SO w F T L v W) (v0 v1 : Value) : ((W.setCell ⟨w.heap.size, 0, none⟩ v0).setCell ⟨w.heap.size, 1, none⟩ v1).cell? ⟨w.heap.size, 0, none⟩ = some v0 ∧ ((W.setCell ⟨w.heap.size, 0, none⟩ v0).setCell ⟨w.heap.size, 1, none⟩ v1).cell? ⟨w.heap.size, 1, none⟩ = some v1 ∧ Below w.heap.size w ((W.setCell ⟨w.heap.size, 0, none⟩ v0).setCell ⟨w.heap.size, 1, none⟩ v1) :=
  ⟨(set2 h.res v0 v1).1, (set2 h.res v0 v1).2, (h.old.setCell (Nat.le_refl _) _).setCell (Nat.le_refl _) _⟩
end

set_option maxHeartbeats 2000000 in
theorem spanOf_any (A A2 : Option Addr) (c c2 : Nat) (l s : List Int) (w : World) (hr : IRow w w.heap.size A l) (hr2 : IRow w w.heap.size A2 s) (hn : l.length ≤ 150) (hs : s.length ≤ 17592186044416) :
    Calls Tryz.prog 8 #[.slice A l.length c, .slice A2 s.length c2] w (SpanIs w (En.spn l s)) := by
  obtain ⟨V, hV⟩ : ∃ V, V = (w.alloc (.cells #[.int .i64 0, .int .i64 0] 33)).alloc (.cells #[.int .i64 (-1), .int .i64 0] 33) := ⟨_, rfl⟩
  have hbV : Below w.heap.size w V := by rw [hV]; exact ((Below.refl _ _).alloc (Nat.le_refl _) _).alloc (by simp) _
  have hszV : V.heap.size = w.heap.size + 2 := by rw [hV]; simp
  have hrow : V.rowIs (w.heap.size + 1) 33 2 (spI (-1) 0) := by
    have h := World.rowIs_alloc (w.alloc (.cells #[.int .i64 0, .int .i64 0] 33)) #[.int .i64 (-1), .int .i64 0] 33 (spI (-1) 0) (fun i hi => by
      match i, hi with
      | 0, _ => rfl
      | 1, _ => rfl)
    rw [World.size_alloc] at h
    rw [hV]
    exact h
  have hres : V.rowIs w.heap.size 33 2 (spF 0 0) := by
    have h := spF_alloc w 0 0 33
    rw [hV]
    exact h.of_block (((Below.refl _ _).alloc (Nat.le_refl _) _).block _ h.lt)
  have HE := Lib.hid (endsOf_own A c l V (hr.on hbV) (by omega))
  have HSt : Hid (∀ W, Below w.heap.size w W → ∀ p : Nat, p ≤ l.length → Calls Tryz.prog 30 #[.slice A l.length c, .slice A2 s.length c2, .int .i64 p] W fun e w' => e = .returned (.bool (En.stands l s p)) ∧ W = w') := Lib.hid fun W hW p hp => refStands_any A A2 c c2 l s p W (hr.on hW) (hr2.on hW) hn hs hp
  have HI : Hid (∀ i, i < l.length → (En.stands l s (En.eat l i) = true ↔ (En.spn l s).1 ≤ i ∧ i < (En.spn l s).2)) := Lib.hid fun i hi => En.spn_iff l s i hi
  have HLt : Hid (∀ i, i < l.length → En.eat l i < l.length) := Lib.hid (En.eat_lt l)
  have hform := spn_form l s
  have hle := En.spn_le l s
  have HG : Hid (∀ i, (endsI l).getD i 0 = ((En.eat l i : Nat) : Int)) := Lib.hid (endsI_get l)
  have HU := Lib.hid (endsI_length l)
  have HV := Lib.hid hV
  clear hr hr2 hV
  generalize hN : l.length = N at *
  clear hN
  generalize s.length = n2 at *
  generalize En.spn l s = sp at *
  obtain ⟨f, t⟩ := sp
  dsimp only at *
  go_enter Tryz.func8, Tryz.ntmps8
  go_wp2_with fail
  rw [← HV.out]
  with_reducible refine HE.out.mono ?_
  rintro e w1 ⟨v, rfl, hO⟩
  have J0 : SO w (soF f t 0) (soT f t 0) (endsI l) v w1 := by
    have e1 : soF f t 0 = -1 := by unfold soF; rw [if_neg (by omega)]
    have e2 : soT f t 0 = 0 := by unfold soT; rw [if_neg (by omega)]
    rw [e1, e2]
    have ho := hO.own
    rw [hszV] at ho
    exact ⟨hrow.of_block (hO.old.block _ hrow.lt), hres.of_block (hO.old.block _ hres.lt), ho, hbV.trans (hO.old.mono hbV.size)⟩
  obtain ⟨X, cx, hX, _⟩ := own_slice J0.own
  subst hX
  have HRow : Hid (∀ (F T : Int) W, SO w F T (endsI l) (.slice X (endsI l).length cx) W → ∀ i, i < N → ∃ b o, X = some ⟨b, o, none⟩ ∧ W.cell? ⟨b, o + i, none⟩ = some (.int .i64 ((En.eat l i : Nat) : Int))) := Lib.hid fun F T W hW i hi => by
    obtain ⟨_, h1⟩ := own_row (0 : Int) hW.own
    have h2 : IRow W W.heap.size X (endsI l) := h1
    obtain ⟨b, o, e, hc⟩ := irow_at' h2 i (by rw [HU.out]; exact hi)
    rw [HG.out] at hc
    exact ⟨b, o, e, hc⟩
  rw [HU.out] at HRow J0 ⊢
  have hlen : Hid ((endsI l).length = N) := HU
  clear HE hO hrow hres hbV HV HG HU hszV
  generalize endsI l = L at *
  go_wp2
  go_loopw [12] (fun s12 W => ∃ i : Nat, i ≤ N ∧ s12 = .int .i64 i ∧ SO w (soF f t i) (soT f t i) L (.slice X N cx) W) (fun s12 _ => N - (intOf s12).toNat)
  case atStart => exact ⟨0, Nat.zero_le _, rfl, J0⟩
  case round =>
    clear J0
    obtain ⟨i, hi, rfl, J⟩ := hrel
    by_cases hlt : i < N
    · have hlz : (i : Int) < (N : Int) := by omega
      obtain ⟨b, o, rfl, d1⟩ := HRow.out _ _ wr J i hlt
      have hst := HI.out i hlt
      have hp := HLt.out i hlt
      have HC := Lib.hid (HSt.out wr J.old (En.eat l i) (by omega))
      generalize En.eat l i = p at *
      generalize En.stands l s p = r at *
      clear HI HLt HSt HRow
      have c0 := J.c0
      have c1 := J.c1
      have f0 := J.row.frozen 0
      have f1 := J.row.frozen 1
      cases r with
      | false =>
        obtain ⟨e1, e2⟩ := so_no f t i (fun h => by have := hst.2 h; cases this)
        have E1 := Lib.hid e1
        have E2 := Lib.hid e2
        clear e1 e2 hst
        go_wp2_with fail
        with_reducible refine HC.out.mono ?_
        rintro e w' ⟨rfl, rfl⟩
        clear HC
        go_wp2
        go_roundw
        case rel => exact ⟨i + 1, by omega, by go_num, by rw [E1.out, E2.out]; exact J⟩
        case measure => simp [intOf]; omega
      | true =>
        have hin := hst.1 rfl
        clear hst
        by_cases h0 : soF f t i < 0
        · obtain ⟨e1, e2⟩ := so_first f t i hin h0
          have E1 := Lib.hid e1
          have E2 := Lib.hid e2
          clear e1 e2
          have J2 := (J.set0 (i : Int)).set1 ((i : Int) + 1)
          have k1 := (J.set0 (i : Int)).c1
          have g1 := (J.set0 (i : Int)).row.frozen 1
          generalize soF f t i = F at *
          generalize soT f t i = T at *
          go_wp2_with fail
          with_reducible refine HC.out.mono ?_
          rintro e w' ⟨rfl, rfl⟩
          clear HC
          go_wp2
          go_roundw
          case rel => exact ⟨i + 1, by omega, by go_num, by rw [E1.out, E2.out]; exact J2⟩
          case measure => simp [intOf]; omega
        · obtain ⟨e1, e2⟩ := so_more f t i hin h0
          have E1 := Lib.hid e1
          have E2 := Lib.hid e2
          clear e1 e2
          have J2 := J.set1 ((i : Int) + 1)
          generalize soF f t i = F at *
          generalize soT f t i = T at *
          go_wp2_with fail
          with_reducible refine HC.out.mono ?_
          rintro e w' ⟨rfl, rfl⟩
          clear HC
          go_wp2
          go_roundw
          case rel => exact ⟨i + 1, by omega, by go_num, by rw [E1.out, E2.out]; exact J2⟩
          case measure => simp [intOf]; omega
    · obtain rfl : i = N := by omega
      clear HI HLt HSt HRow
      have r0 : wr.cell? ⟨w.heap.size, 0, none⟩ = some (.int .i64 0) := J.res.cell (i := 0) (by omega)
      have r1 : wr.cell? ⟨w.heap.size, 1, none⟩ = some (.int .i64 0) := J.res.cell (i := 1) (by omega)
      have f0 := J.res.frozen 0
      have f1 := J.res.frozen 1
      rcases hform with he | he
      · injection he with h1 h2
        subst h1 h2
        have e1 : soF 0 0 i = -1 := by unfold soF; rw [if_neg (by omega)]
        have c0 := J.c0
        rw [e1] at c0
        clear e1
        go_wp2
        obtain ⟨s0, s1, s2⟩ := J.end_ (.int .i64 0) (.int .i64 0)
        exact bodyPost_ret (v := .agg #[.int .i64 0, .int .i64 0]) (by simp [results, Tryz.results8, go_sem, s0, s1]) rfl ⟨rfl, s2⟩
      · have e1 : soF f t i = (f : Int) := by unfold soF; rw [if_pos (by omega)]
        have e2 : soT f t i = (t : Int) := by unfold soT; rw [if_pos (by omega)]; omega
        have c0 := J.c0
        have c1 := J.c1
        rw [e1] at c0
        rw [e2] at c1
        have z1 : ¬ ((f : Int) < 0) := by omega
        clear e1 e2
        go_wp2
        obtain ⟨s0, s1, s2⟩ := J.end_ (.int .i64 f) (.int .i64 t)
        exact bodyPost_ret (v := .agg #[.int .i64 f, .int .i64 t]) (by simp [results, Tryz.results8, go_sem, s0, s1]) rfl ⟨rfl, s2⟩

end Go.Proofs.YtelapijdpcoekaaGreat
