/- Text: the list of which it is the index. -/
import Derived.Test.YtelapijdpcoekaaGreatJg
import Derived.Test.YtelapijdpcoekaaGreatJh
namespace Go.Proofs.YtelapijdpcoekaaGreat
open Go.RowKit
attribute [local irreducible] Bt.pop Bt.popF

/-- the list, as far as the first k ends tell it -/
def txF (l : List Int) (f : Nat → Int) (k : Nat) : Prop := ∀ i, i < k → f (En.eat l i) = l.getD (En.eat l i) 0
/-- the index in its box, the list in the making -/
structure TX (w : World) (E L S : Option Addr) (cE cL cS N M : Nat) (l : List Int) (f : Nat → Int) (W : World) : Prop where
  cb : CB w w.heap.size E L S cE cL cS N M l W
  row : W.rowIs (w.heap.size + 1) 3 N (fun j => .int .i64 (f j))
/-- a store elsewhere -/
theorem CB.far {w : World} {E L S : Option Addr} {cE cL cS N M : Nat} {l : List Int} {W : World} (h : CB w w.heap.size E L S cE cL cS N M l W) (p : Addr) (v : Value) (hp : p.block = w.heap.size + 1) (hc : Cmb w E L S l) : CB w w.heap.size E L S cE cL cS N M l (W.setCell p v) := by
  have hb := h.old.setCell (p := p) (by omega) v
  have k : ∀ i, (W.setCell p v).cell? ⟨w.heap.size, i, none⟩ = W.cell? ⟨w.heap.size, i, none⟩ := fun i => World.cell?_setCell_far W p ⟨w.heap.size, i, none⟩ v (by show p.block ≠ w.heap.size; omega)
  exact ⟨(k 0).trans h.c0, (k 1).trans h.c1, (k 2).trans h.c2, (k 3).trans h.c3, (k 4).trans h.c4, hc.on hb, h.len, h.num, h.capE, h.capL, by simpa using h.lt, hb⟩
theorem TX.on {w : World} {E L S : Option Addr} {cE cL cS N M : Nat} {l : List Int} {f : Nat → Int} {W W' : World} (h : TX w E L S cE cL cS N M l f W) (hb : Below W.heap.size W W') : TX w E L S cE cL cS N M l f W' :=
  ⟨h.cb.on hb, h.row.of_block (hb.block _ h.row.lt)⟩

set_option maxHeartbeats 2000000 in
theorem text_any (E L S : Option Addr) (cE cL cS N M : Nat) (l : List Int) (w : World) (h : Cmb w E L S l) (hN : N = l.length) (hM : M = En.most l + 2) (hE : N ≤ cE) (hL : 10 ≤ cL) :
    Calls Tryz.prog 19 #[.agg #[.slice E N cE, .int .i64 N, .int .i64 10, .slice L 10 cL, .slice S M cS]] w (Ints w l) := by
  have hsg := h.sg
  have hsm := h.small
  have hft := h.fit
  have hpos := hsg.pos
  obtain ⟨w0, hw0⟩ : ∃ w0, w0 = w.alloc (.cells #[.slice E N cE, .int .i64 N, .int .i64 10, .slice L 10 cL, .slice S M cS] 29) := ⟨_, rfl⟩
  have J : CB w w.heap.size E L S cE cL cS N M l w0 := by rw [hw0]; exact CB.start h hN hM hE hL (Below.refl _ _) 29
  have hsz0 : w0.heap.size = w.heap.size + 1 := by rw [hw0]; simp
  have hmk := run_make_row' (P := Tryz.prog) 22 3 (.int .i64 0) 8 Tryz.underlying22 infoInt4 rfl .i64 .i64 N (by omega) (by omega)
  have hrow0 := World.rowIs_made w0 (.int .i64 0) N 3
  rw [hsz0] at hrow0
  have T0 : TX w E L S cE cL cS N M l (fun _ => 0) (w0.alloc (.cells (madeCells #[.int .i64 0] N) 3)) := ⟨J.on ((Below.refl _ _).alloc (Nat.le_refl _) _), hrow0⟩
  have hM2 : M < 4611686018427387904 := by omega
  have HNum : Hid (∀ (f : Nat → Int) W, TX w E L S cE cL cS N M l f W → Calls Tryz.prog 38 #[.agg #[.slice E N cE, .int .i64 N, .int .i64 10, .slice L 10 cL, .slice S M cS]] W fun e w' => e = .returned (.int .i64 ((M : Int) - 1)) ∧ TX w E L S cE cL cS N M l f w') := Lib.hid fun f W hW => (numbers_any E L S N cE N 10 10 cL M cS W hM2).mono fun e w' hh => And.intro hh.1 (hW.on hh.2)
  have HEn : Hid (∀ (f : Nat → Int) W, TX w E L S cE cL cS N M l f W → ∀ i, i < N → ∃ b o, E = some ⟨b, o, none⟩ ∧ W.cell? ⟨b, o + i, none⟩ = some (.int .i64 ((En.eat l i : Nat) : Int))) := Lib.hid fun f W hW i hi => by
    have hr : Row W W.heap.size E (endsI l).length (fun i => .int .i64 ((endsI l).getD i 0)) := hW.cb.cmb.ends
    rw [endsI_length] at hr
    obtain ⟨b, o, e, _, hc⟩ := hr (by omega)
    have h1 : W.cell? ⟨b, o + i, none⟩ = some (.int .i64 ((endsI l).getD i 0)) := hc i (by omega)
    rw [endsI_get] at h1
    exact ⟨b, o, e, h1⟩
  have HLs : Hid (∀ (f : Nat → Int) W, TX w E L S cE cL cS N M l f W → ∀ x : Nat, x < M → ∃ b o, S = some ⟨b, o, none⟩ ∧ W.cell? ⟨b, o + x, none⟩ = some (.int .i64 (En.lessN l x : Nat))) := Lib.hid fun f W hW x hx => by
    have hr : Row W W.heap.size S (En.lessL l).length (fun i => .int .i64 ((En.lessL l).getD i 0)) := hW.cb.cmb.less
    rw [En.lessL_length] at hr
    obtain ⟨b, o, e, _, hc⟩ := hr (by omega)
    have h1 : W.cell? ⟨b, o + x, none⟩ = some (.int .i64 ((En.lessL l).getD x 0)) := hc x (by omega)
    rw [En.lessL_get l x (by omega)] at h1
    exact ⟨b, o, e, h1⟩
  have Hlt : Hid (∀ i, i < N → En.eat l i < N) := Lib.hid fun i hi => by rw [hN]; exact En.eat_lt l i (by omega)
  have Hinj : Hid (∀ i j, i < N → j < N → En.eat l i = En.eat l j → i = j) := Lib.hid fun i j hi hj he => En.eat_inj l i j (by omega) (by omega) he
  have HAt : Hid (∀ i n : Nat, i < N → En.lessN l n ≤ i → (n + 2 = M ∨ i < En.lessN l ((n : Int) + 1)) → l.getD (En.eat l i) 0 = (n : Int)) := Lib.hid fun i n hi h1 h2 => En.text_at hsg i n (by omega) h1 (by omega)
  have H00 : Hid (En.lessN l ((0 : Nat) : Int) = 0) := Lib.hid (En.lessN_zero hsg)
  have HR : Hid (∀ (f : Nat → Int) W, TX w E L S cE cL cS N M l f W → txF l f N → Ints w l (.returned (.slice (some ⟨w.heap.size + 1, 0, none⟩) N N)) W) := Lib.hid fun f W hW hf => by
    refine ⟨some ⟨w.heap.size + 1, 0, none⟩, N, by rw [hN], ?_, hW.cb.old⟩
    unfold IRow
    rw [← hN]
    refine (row_of_rowIs hW.row).congr (fun p hp => ?_)
    obtain ⟨i, hi, he⟩ := En.eat_onto l p (by omega)
    have := hf i (by omega)
    rw [he] at this
    rw [this]
  have HW0 := Lib.hid hw0
  have hcm := h
  have hN4 : N ≤ 4096 := by omega
  have hM4 : 2 ≤ M := by omega
  have hM5 : M ≤ 1026 := by omega
  clear h hsg hN hw0 hrow0 hM hft
  go_enter Tryz.func19, Tryz.ntmps19
  go_wp2
  rw [← HW0.out]
  clear HW0 hmk
  go_loopw [4, 14] (fun s4 t W => ∃ (i n : Nat) (f : Nat → Int), i ≤ N ∧ t = .int .i64 i ∧ s4 = .int .i64 n ∧ n + 2 ≤ M ∧ En.lessN l n ≤ i ∧ Hid (txF l f i) ∧ TX w E L S cE cL cS N M l f W) (fun _ t _ => N - (intOf t).toNat)
  case atStart => exact ⟨0, 0, _, Nat.zero_le _, rfl, rfl, by omega, by rw [H00.out]; omega, Lib.hid (show txF l (fun _ => 0) 0 from fun i hi => absurd hi (by omega)), T0⟩
  case round =>
    obtain ⟨i, n, f, hi, rfl, rfl, hn1, hn2, HT, T⟩ := hrel
    clear T0 J
    generalize wr = V at *
    by_cases hlt : i < N
    · have hlz : (i : Int) < (N : Int) := by omega
      obtain ⟨b, o, rfl, hc⟩ := HEn.out f V T i hlt
      have hp := Hlt.out i hlt
      have HI := Lib.hid (fun i' hi' => Hinj.out i' i hi' hlt)
      generalize hpp : En.eat l i = p at *
      have HP := Lib.hid hpp
      clear hpp
      go_wp2
      go_loopw [4] (fun s4 W => ∃ n : Nat, s4 = .int .i64 n ∧ n + 2 ≤ M ∧ En.lessN l n ≤ i ∧ TX w (some ⟨b, o, none⟩) L S cE cL cS N M l f W) (fun s4 _ => M - (intOf s4).toNat)
      case atStart => exact ⟨n, rfl, hn1, hn2, T⟩
      case round =>
        clear T hc hn1 hn2
        obtain ⟨n, rfl, hn1, hn2, T⟩ := hrel
        have c0 := T.cb.c0
        have c1 := T.cb.c1
        have c2 := T.cb.c2
        have c3 := T.cb.c3
        have c4 := T.cb.c4
        go_wp2_with fail
        with_reducible refine (HNum.out f _ T).mono ?_
        rintro e w2 ⟨rfl, T2⟩
        clear T c0 c1 c2 c3 c4
        have T := T2
        clear T2
        by_cases hn3 : n + 2 < M
        · have z1 : (n : Int) + 1 < (M : Int) - 1 := by omega
          obtain ⟨b2, o2, rfl, d2⟩ := HLs.out f w2 T (n + 1) (by omega)
          have c4 := T.cb.c4
          have z2 : (n : Int) + 1 < (M : Int) := by omega
          have hbl := En.lessN_le l ((n + 1 : Nat) : Int)
          by_cases hle : En.lessN l ((n + 1 : Nat) : Int) ≤ i
          · have hle2 := hle
            generalize En.lessN l ((n + 1 : Nat) : Int) = q at d2 hle hbl
            clear HT HAt HNum HEn HLs Hinj Hlt
            go_wp2
            go_roundw
            case rel => exact ⟨n + 1, by go_num, by omega, hle2, T⟩
            case measure => simp [intOf]; omega
          · have hi2 : i < En.lessN l ((n : Int) + 1) := by
              have e1 : ((n + 1 : Nat) : Int) = (n : Int) + 1 := by omega
              rw [e1] at hle
              omega
            generalize En.lessN l ((n + 1 : Nat) : Int) = q at d2 hle hbl
            have hq : ¬ ((q : Int) ≤ (i : Int)) := by omega
            -- the end's first number is n
            have hat := HAt.out i n (by omega) hn2 (.inr hi2)
            have d1 : w2.cell? ⟨w.heap.size + 1, p, none⟩ = some (.int .i64 (f p)) := T.row.cell hp
            have fz := T.row.frozen p
            have T2 : TX w (some ⟨b, o, none⟩) L (some ⟨b2, o2, none⟩) cE cL cS N M l (fun j => if j = p then (n : Int) else f j) (w2.setCell ⟨w.heap.size + 1, p, none⟩ (.int .i64 n)) := ⟨T.cb.far ⟨w.heap.size + 1, p, none⟩ _ rfl hcm, (T.row.set p (.int .i64 n)).congr (fun j _ => by by_cases hj : j = p <;> simp [hj])⟩
            have HT2 : Hid (txF l (fun j => if j = p then (n : Int) else f j) (i + 1)) := Lib.hid fun i' hi' => by
              show (if En.eat l i' = p then (n : Int) else f (En.eat l i')) = l.getD (En.eat l i') 0
              by_cases e : En.eat l i' = p
              · rw [if_pos e, e, ← HP.out, hat]
              · rw [if_neg e]
                exact HT.out i' (by
                  have : i' ≠ i := fun h => e (by rw [h]; exact HP.out)
                  omega)
            clear hat HAt HT HNum HEn HLs Hinj Hlt
            go_wp2
            go_roundw
            case rel => exact ⟨i + 1, n, _, by omega, by go_num, rfl, hn1, by omega, HT2, T2⟩
            case measure => simp [intOf]; omega
        · have z1 : ¬ ((n : Int) + 1 < (M : Int) - 1) := by omega
          -- the end's first number is n
          have hat := HAt.out i n (by omega) hn2 (.inl (by omega))
          have d1 : w2.cell? ⟨w.heap.size + 1, p, none⟩ = some (.int .i64 (f p)) := T.row.cell hp
          have fz := T.row.frozen p
          have T2 : TX w (some ⟨b, o, none⟩) L S cE cL cS N M l (fun j => if j = p then (n : Int) else f j) (w2.setCell ⟨w.heap.size + 1, p, none⟩ (.int .i64 n)) := ⟨T.cb.far ⟨w.heap.size + 1, p, none⟩ _ rfl hcm, (T.row.set p (.int .i64 n)).congr (fun j _ => by by_cases hj : j = p <;> simp [hj])⟩
          have HT2 : Hid (txF l (fun j => if j = p then (n : Int) else f j) (i + 1)) := Lib.hid fun i' hi' => by
            show (if En.eat l i' = p then (n : Int) else f (En.eat l i')) = l.getD (En.eat l i') 0
            by_cases e : En.eat l i' = p
            · rw [if_pos e, e, ← HP.out, hat]
            · rw [if_neg e]
              exact HT.out i' (by
                have : i' ≠ i := fun h => e (by rw [h]; exact HP.out)
                omega)
          clear hat HAt HT HNum HEn HLs Hinj Hlt
          go_wp2
          go_roundw
          case rel => exact ⟨i + 1, n, _, by omega, by go_num, rfl, hn1, by omega, HT2, T2⟩
          case measure => simp [intOf]; omega
    · obtain rfl : i = N := by omega
      clear HAt HNum HEn HLs Hinj Hlt
      go_wp2
      go_ret
      exact HR.out f V T HT.out

end Go.Proofs.YtelapijdpcoekaaGreat
