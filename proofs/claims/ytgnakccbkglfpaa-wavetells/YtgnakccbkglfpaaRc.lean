/- What the reference's BitsOf makes: the same as Make. -/
import Derived.Test.YtgnakccbkglfpaaRb
import Derived.Test.YtgnakccbkglfpaaAp
import Derived.Deep.RegionLaw
import Derived.Deep.CutRange
namespace Go.Proofs.Ytgnakccbkglfpaa
open Go.RowKit
attribute [local irreducible] Bt.pop Bt.popF

/-- the parts, and the ones ahead, of what has been read so far -/
def xsP (l : List Bool) (k m : Nat) : List Value := (List.range m).map fun p => .int .u64 (Bt.part (l.take k) p)
def xsA (l : List Bool) (m : Nat) : List Value := (List.range m).map fun p => .int .i64 (Bt.ahd l p)
/-- the three cells of the bits in the making -/
def boxF (n : Nat) (pv av : Value) : Nat → Value := fun j => if j = 0 then .int .i64 n else if j = 1 then pv else av

structure BO (w : World) (l : List Bool) (n k m : Nat) (pv av : Value) (wr : World) : Prop where
  box : wr.rowIs (w.heap.size + 1) 27 3 (boxF n pv av)
  res : wr.rowIs w.heap.size 27 3 zeroBits
  own1 : wr.ownsRow (w.heap.size + 2) 59 1 pv m (xsP l k m)
  own2 : wr.ownsRow (w.heap.size + 2) 3 1 av m (xsA l m)
  old : Below w.heap.size w wr

theorem part_done (l : List Bool) (k : Nat) (hk : k % 64 = 0) : Bt.part (l.take k) (k / 64) = 0 := by
  unfold Bt.part Bt.seg
  rw [List.drop_eq_nil_of_le (by rw [List.length_take]; omega)]; rfl
theorem xsP_more (l : List Bool) (k : Nat) (hk : k % 64 = 0) : xsP l k (k / 64) ++ [.int .u64 0] = xsP l k (k / 64 + 1) := by
  unfold xsP
  rw [List.range_succ, List.map_append]
  simp [part_done l k hk]
theorem xsA_more (l : List Bool) (k : Nat) (hk : k % 64 = 0) : xsA l (k / 64) ++ [.int .i64 (Bt.ones (l.take k))] = xsA l (k / 64 + 1) := by
  unfold xsA
  rw [List.range_succ, List.map_append]
  have : Bt.ahd l (k / 64) = Bt.ones (l.take k) := by unfold Bt.ahd; rw [show 64 * (k / 64) = k from by omega]
  simp [this]
theorem xsP_same (l : List Bool) (k m : Nat) (hk : k < l.length) (hx : l.getD k false = false) : xsP l (k + 1) m = xsP l k m := by
  unfold xsP
  apply List.map_congr_left
  intro p _
  rw [Bt.part_take_succ l k p hk, hx]; simp
theorem xsP_past (l : List Bool) (k m : Nat) (hk : l.length ≤ k) : xsP l (k + 1) m = xsP l k m := by
  unfold xsP
  rw [List.take_of_length_le hk, List.take_of_length_le (by omega)]
theorem part_room (l : List Bool) (k : Nat) (hk : k ≤ l.length) : Bt.part (l.take k) (k / 64) < 2 ^ (k % 64) := by
  unfold Bt.part
  have h := Bt.val_lt (Bt.seg (l.take k) (k / 64))
  have e : (Bt.seg (l.take k) (k / 64)).length = k % 64 := by simp [Bt.seg]; omega
  rwa [e] at h
theorem xsP_set (l : List Bool) (k m : Nat) (hk : k < l.length) (hx : l.getD k false = true) :
    (xsP l k m).set (k / 64) (.int .u64 ((Bt.part (l.take k) (k / 64) + 2 ^ (k % 64) : Nat) : Int)) = xsP l (k + 1) m := by
  have hor : Bt.part (l.take k) (k / 64) ||| 2 ^ (k % 64) = Bt.part (l.take k) (k / 64) + 2 ^ (k % 64) := by
    have h := Nat.two_pow_add_eq_or_of_lt (part_room l k (by omega)) 1
    simp only [Nat.mul_one] at h
    rw [Nat.or_comm, ← h, Nat.add_comm]
  unfold xsP
  apply List.ext_getElem?
  intro p
  rw [List.getElem?_set]
  by_cases hp : p < m
  · by_cases he : k / 64 = p
    · subst he
      rw [if_pos rfl]
      simp only [List.length_map, List.length_range, hp, if_true, List.getElem?_map, List.getElem?_range hp, Option.map_some]
      rw [Bt.part_take_succ l k _ hk, if_pos ⟨rfl, hx⟩, hor]
    · rw [if_neg he]
      simp only [List.getElem?_map, List.getElem?_range hp, Option.map_some]
      rw [Bt.part_take_succ l k p hk, if_neg (fun h => he h.1.symm)]
  · simp only [List.getElem?_map, List.getElem?_eq_none (show (List.range m).length ≤ p by simp; omega), Option.map_none]
    by_cases he : k / 64 = p
    · rw [if_pos he]; simp; omega
    · rw [if_neg he]

theorem add_bit (p k : Nat) (hp : p < 2 ^ k) (hk : k < 64) : IntKind.u64.wrap ((p : Int) + IntKind.u64.wrap (2 ^ k)) = ((p + 2 ^ k : Nat) : Int) := by
  have h3 : 2 ^ k ≤ 2 ^ 63 := Nat.pow_le_pow_right (by omega) (by omega)
  have : (2 : Int) ^ k = ((2 ^ k : Nat) : Int) := by simp
  rw [this, IntKind.wrap_u64, IntKind.wrap_u64]
  generalize (2 : Nat) ^ k = m at h3 hp ⊢
  omega

theorem BO.start (w : World) (l : List Bool) (n : Nat) :
    BO w l n 0 ((0 + 63) / 64) (.slice none 0 0) (.slice none 0 0) ((w.alloc (.cells #[.int .i64 0, .slice none 0 0, .slice none 0 0] 27)).alloc (.cells #[.int .i64 n, .slice none 0 0, .slice none 0 0] 27)) := by
  have h1 := World.rowIs_alloc (w.alloc (.cells #[.int .i64 0, .slice none 0 0, .slice none 0 0] 27)) #[.int .i64 n, .slice none 0 0, .slice none 0 0] 27 (boxF n (.slice none 0 0) (.slice none 0 0)) (fun i hi => by
    match i, hi with
    | 0, _ => rfl
    | 1, _ => rfl
    | 2, _ => rfl)
  have h2 := World.rowIs_alloc w #[.int .i64 0, .slice none 0 0, .slice none 0 0] 27 zeroBits (fun i hi => by
    match i, hi with
    | 0, _ => rfl
    | 1, _ => rfl
    | 2, _ => rfl)
  rw [World.size_alloc] at h1
  exact ⟨h1, h2.alloc _, World.ownsRow_nil _ _ _ _, World.ownsRow_nil _ _ _ _, ((Below.refl _ _).alloc (Nat.le_refl _) _).alloc (by simp) _⟩
theorem BO.dull {w : World} {l : List Bool} {n k m : Nat} {pv av : Value} {wr : World} (I : BO w l n k m pv av wr) (hk : k < l.length) (hx : l.getD k false = false) (hm : m = (k + 1 + 63) / 64 := by omega) : BO w l n (k + 1) ((k + 1 + 63) / 64) pv av wr := by
  subst hm
  exact ⟨I.box, I.res, by rw [xsP_same l k _ hk hx]; exact I.own1, I.own2, I.old⟩
theorem BO.past {w : World} {l : List Bool} {n k m : Nat} {pv av : Value} {wr : World} (I : BO w l n k m pv av wr) (hk : l.length ≤ k) (hm : m = (k + 1 + 63) / 64 := by omega) : BO w l n (k + 1) ((k + 1 + 63) / 64) pv av wr := by
  subst hm
  exact ⟨I.box, I.res, by rw [xsP_past l k _ hk]; exact I.own1, I.own2, I.old⟩
theorem BO.bright {w : World} {l : List Bool} {n k m g cap : Nat} {av : Value} {wr : World} (I : BO w l n k m (.slice (some ⟨g, 0, none⟩) m cap) av wr) (hk : k < l.length) (hx : l.getD k false = true) (hm : m = (k + 1 + 63) / 64 := by omega) :
    BO w l n (k + 1) ((k + 1 + 63) / 64) (.slice (some ⟨g, 0, none⟩) m cap) av (wr.setCell ⟨g, k / 64, none⟩ (.int .u64 ((Bt.part (l.take k) (k / 64) + 2 ^ (k % 64) : Nat) : Int))) := by
  have hg := (I.own1.lt g rfl).1
  have hne := own_ne I.own2 I.own1 (by decide)
  subst hm
  refine ⟨I.box.setOther (by simp; omega) _, I.res.setOther (by simp; omega) _, ?_, ?_, I.old.setCell (by simp; omega) _⟩
  · have h := I.own1.stored (k / 64) (.int .u64 ((Bt.part (l.take k) (k / 64) + 2 ^ (k % 64) : Nat) : Int))
    rw [xsP_set l k _ hk hx] at h
    exact h.1
  · refine ownsRow_setCell_other I.own2 ?_ _
    rcases hne with h | h
    · rw [h]; simp
    · exact h

/-- the same in the middle of a statement: the two rows have grown, the cells that hold them are as they were -/
structure BQ (w : World) (n : Nat) (pv av v1 : Value) (m1 : Nat) (xs1 : List Value) (v2 : Value) (m2 : Nat) (xs2 : List Value) (wr : World) : Prop where
  box : wr.rowIs (w.heap.size + 1) 27 3 (boxF n pv av)
  res : wr.rowIs w.heap.size 27 3 zeroBits
  own1 : wr.ownsRow (w.heap.size + 2) 59 1 v1 m1 xs1
  own2 : wr.ownsRow (w.heap.size + 2) 3 1 v2 m2 xs2
  old : Below w.heap.size w wr
  big : w.heap.size + 2 ≤ wr.heap.size
section
variable {w : World} {n : Nat} {pv av v1 : Value} {m1 : Nat} {xs1 : List Value} {v2 : Value} {m2 : Nat} {xs2 : List Value} {wr : World}
theorem BQ.alloc (Q : BQ w n pv av v1 m1 xs1 v2 m2 xs2 wr) (o : Obj) : BQ w n pv av v1 m1 xs1 v2 m2 xs2 (wr.alloc o) :=
  ⟨Q.box.alloc o, Q.res.alloc o, Q.own1.alloc o, Q.own2.alloc o, Q.old.alloc Q.old.size o, by have := Q.big; simp; omega⟩
theorem BQ.drew (Q : BQ w n pv av v1 m1 xs1 v2 m2 xs2 wr) : BQ w n pv av v1 m1 xs1 v2 m2 xs2 wr.drew := ⟨Q.box, Q.res, Q.own1, Q.own2, Q.old.drew, Q.big⟩
theorem BQ.app1 (Q : BQ w n pv av v1 m1 xs1 v2 m2 xs2 wr) {w1 : World} {v : Value} {m : Nat} {xs : List Value} (h : w1.ownsRow (w.heap.size + 2) 59 1 v m xs) (hg : wr.grownBy w1 v1.ownBlock) : BQ w n pv av v m xs v2 m2 xs2 w1 :=
  ⟨Q.box.of_block (hg.block _ Q.box.lt (own_above Q.own1 (by omega))), Q.res.of_block (hg.block _ Q.res.lt (own_above Q.own1 (by omega))), h, Q.own2.kept hg (own_ne Q.own2 Q.own1 (by decide)),
    Q.old.grown hg Q.old.size (fun k hk => by have := (Q.own1.lt k hk).1; omega), Nat.le_trans Q.big hg.size⟩
theorem BQ.app2 (Q : BQ w n pv av v1 m1 xs1 v2 m2 xs2 wr) {w1 : World} {v : Value} {m : Nat} {xs : List Value} (h : w1.ownsRow (w.heap.size + 2) 3 1 v m xs) (hg : wr.grownBy w1 v2.ownBlock) : BQ w n pv av v1 m1 xs1 v m xs w1 :=
  ⟨Q.box.of_block (hg.block _ Q.box.lt (own_above Q.own2 (by omega))), Q.res.of_block (hg.block _ Q.res.lt (own_above Q.own2 (by omega))), Q.own1.kept hg (own_ne Q.own1 Q.own2 (by decide)), h,
    Q.old.grown hg Q.old.size (fun k hk => by have := (Q.own2.lt k hk).1; omega), Nat.le_trans Q.big hg.size⟩
theorem BQ.cells (Q : BQ w n pv av v1 m1 xs1 v2 m2 xs2 wr) : wr.cell? ⟨w.heap.size + 1, 1, none⟩ = some pv ∧ wr.cell? ⟨w.heap.size + 1, 2, none⟩ = some av ∧ wr.frozen? ⟨w.heap.size + 1, 1, none⟩ = false ∧ wr.frozen? ⟨w.heap.size + 1, 2, none⟩ = false :=
  ⟨Q.box.cell (i := 1) (by omega), Q.box.cell (i := 2) (by omega), Q.box.frozen 1, Q.box.frozen 2⟩
/-- a new block's cell is still there when another row has grown -/
theorem grown_new {x w1 : World} {H : Nat} {v : Value} {base : Nat} {e : TypeId} {m : Nat} {xs : List Value} {y : World} (hg : x.grownBy w1 v.ownBlock) (ho : y.ownsRow base e 1 v m xs) (hH : y.heap.size = H) (j o : Nat) (hj : H ≤ j) (hlt : j < x.heap.size) :
    w1.cell? ⟨j, o, none⟩ = x.cell? ⟨j, o, none⟩ :=
  World.cell?_of_block (hg.block j hlt (fun h => by have := (ho.lt j h.symm).2; omega))
theorem BQ.store (Q : BQ w n pv av v1 m1 xs1 v2 m2 xs2 wr) : BQ w n v1 v2 v1 m1 xs1 v2 m2 xs2 ((wr.setCell ⟨w.heap.size + 1, 1, none⟩ v1).setCell ⟨w.heap.size + 1, 2, none⟩ v2) := by
  refine ⟨((Q.box.set 1 v1).set 2 v2).congr (fun i hi => ?_), (Q.res.setOther (by simp) _).setOther (by simp) _, ?_, ?_, (Q.old.setCell (by simp) _).setCell (by simp) _, by have := Q.big; simpa [World.setCell] using this⟩
  · match i, hi with
    | 0, _ => rfl
    | 1, _ => rfl
    | 2, _ => rfl
  · exact ownsRow_setCell_below (ownsRow_setCell_below Q.own1 (by simp) _) (by simp) _
  · exact ownsRow_setCell_below (ownsRow_setCell_below Q.own2 (by simp) _) (by simp) _
/-- what the statement leaves -/
theorem BQ.done {l : List Bool} {k : Nat} (Q : BQ w n pv av v1 (k / 64 + 1) (xsP l k (k / 64) ++ [.int .u64 0]) v2 (k / 64 + 1) (xsA l (k / 64) ++ [.int .i64 (Bt.ones (l.take k))]) wr) (hk : k % 64 = 0) :
    BO w l n k (k / 64 + 1) v1 v2 ((wr.setCell ⟨w.heap.size + 1, 1, none⟩ v1).setCell ⟨w.heap.size + 1, 2, none⟩ v2) := by
  have Q' := Q.store
  rw [xsP_more l k hk, xsA_more l k hk] at Q'
  exact ⟨Q'.box, Q'.res, Q'.own1, Q'.own2, Q'.old⟩
end

set_option maxHeartbeats 2000000 in
theorem bitsOf_new (A : Option Addr) (n c : Nat) (l : List Bool) (w : World) (hA : Row w w.heap.size A n (fun k => .bool (l.getD k false))) (hl : n = l.length) (hn : n ≤ 140737488355328) :
    Calls Try.prog 14 #[.slice A n c] w fun e w' =>
      ∃ g1 c1 g2 c2, e = .returned (.agg #[.int .i64 n, .slice (some ⟨g1, 0, none⟩) (n / 64 + 1) c1, .slice (some ⟨g2, 0, none⟩) (n / 64 + 1) c2]) ∧ w.heap.size ≤ g1 ∧ w.heap.size ≤ g2 ∧ IsBits w' w'.heap.size (some ⟨g1, 0, none⟩) (some ⟨g2, 0, none⟩) l ∧ Below w.heap.size w w' := by
  have Hl := Lib.hid hl
  clear hl
  go_enter Try.func14, Try.ntmps14
  go_wp2
  go_loopw [4, 5] (fun s4 s5 wr => ∃ (k : Nat) (pv av : Value), k ≤ n + 1 ∧ s5 = .int .i64 k ∧ s4 = .int .i64 (Bt.ones (l.take k)) ∧ BO w l n k ((k + 63) / 64) pv av wr)
    (fun _ s _ => n + 1 - (intOf s).toNat)
  case atStart => exact ⟨0, _, _, by omega, rfl, rfl, BO.start w l n⟩
  case round =>
    obtain ⟨k, pv, av, hk, rfl, rfl, I⟩ := hrel
    by_cases hkn : k ≤ n
    · go_upto_if 17 with fail
      go_cut [4, 5] from 9 to 52 (fun s4 s5 wx => s4 = .int .i64 (Bt.ones (l.take k)) ∧ s5 = .int .i64 k ∧ ∃ pv av, BO w l n k (k / 64 + 1) pv av wx)
      case first =>
        by_cases hz : k % 64 = 0
        · have hzb : ((k : Int) % 64 == 0) = true := by simp; omega
          rw [show (k + 63) / 64 = k / 64 from by omega] at I
          have Q : BQ w n pv av pv (k / 64) (xsP l k (k / 64)) av (k / 64) (xsA l (k / 64)) wr := ⟨I.box, I.res, I.own1, I.own2, I.old, by have := I.box.lt; omega⟩
          obtain ⟨q1, q2, q3, q4⟩ := Q.cells
          have h63 : k / 64 + 1 ≤ maxLen := by unfold maxLen; omega
          clear I
          have q5 := fun o => (Q.alloc o).cells.1
          have q6 := fun o => (Q.alloc o).cells.2.1
          have q7 := fun o o' => ((Q.alloc o).alloc o').cells.1
          have q8 := fun o o' => ((Q.alloc o).alloc o').cells.2.1
          go_wp2_with fail
          go_region_law
            (first
              | (refine step_app1 _ (by rfl) (.tmp 19) (.tmp 20) 24 (by rfl) (w.heap.size + 2) 59 (.int .u64 0) 8 Try.underlying24 infoU64 (by rfl) pv (k / 64) (xsP l k (k / 64)) (by rfl) _ (.int .u64 0) (by rfl) ?_ ?_ rfl h63 (by omega) ?_ ?_; (first | exact (Q.alloc _).own1 | exact ((Q.alloc _).alloc _).own1); (first | exact new1 _ _ _ | exact new1_under _ _ _ _ | exact new1_over _ _ _ _); (have := Q.big; simp; omega); intro g1 c1 w1 o1 gr1 _ _; (first | have Q1 := (Q.alloc _).drew.app1 o1 gr1 | have Q1 := ((Q.alloc _).alloc _).drew.app1 o1 gr1); obtain ⟨p1, p2, p3, p4⟩ := Q1.cells; have p5 := fun o => (Q1.alloc o).cells.2.1)
              | (refine step_app1 _ (by rfl) (.tmp 23) (.tmp 25) 25 (by rfl) (w.heap.size + 2) 3 (.int .i64 0) 8 Try.underlying25 infoInt (by rfl) av (k / 64) (xsA l (k / 64)) (by rfl) _ (.int .i64 (Bt.ones (l.take k))) (by rfl) ?_ ?_ rfl h63 (by omega) ?_ ?_; (first | exact Q1.own2 | exact (Q1.alloc _).own2); (first | exact new1 _ _ _ | (refine (grown_new gr1 Q.own1 rfl _ _ (by simp) (by simp <;> omega)).trans ?_; first | exact new1_under _ _ _ _ | exact new1_over _ _ _ _)); (have := Q1.big; first | omega | (simp; omega)); intro g2 c2 w2 o2 gr2 _ _; (first | have Q2 := Q1.app2 o2 gr2 | have Q2 := (Q1.alloc _).app2 o2 gr2); obtain ⟨r1, r2, r3, r4⟩ := Q2.cells))
          all_goals
            go_wp2_with fail
            go_meet
            exact ⟨rfl, rfl, _, _, Q2.done hz⟩
        · have hzb : ((k : Int) % 64 == 0) = false := by simp; omega
          rw [show (k + 63) / 64 = k / 64 + 1 from by omega] at I
          go_wp2_with fail
          go_meet
          exact ⟨rfl, rfl, _, _, I⟩
      case rest =>
        clear I pv av
        obtain ⟨rfl, rfl, pv, av, I⟩ := hcut
        have hob := Bt.ones_le (l.take k)
        rw [List.length_take] at hob
        have b0 : wc.cell? ⟨w.heap.size + 1, 0, none⟩ = some (.int .i64 n) := I.box.cell (by omega)
        have b1 : wc.cell? ⟨w.heap.size + 1, 1, none⟩ = some _ := I.box.cell (by omega)
        simp only [boxF] at b1
        by_cases hlt : k < n
        · obtain ⟨b, o, rfl, hbb, hc⟩ := hA (by omega)
          have hc1 : wc.cell? ⟨b, o + k, none⟩ = some (.bool (l.getD k false)) := (I.old.cell (p := ⟨b, o + k, none⟩) hbb).trans (hc k hlt)
          clear hc
          have hs := ones_step l k (by have := Hl.out; omega)
          cases hx : l.getD k false
          · rw [hx] at hc1 hs
            have I2 := I.dull (by have := Hl.out; omega) hx
            have H := Lib.hid hs
            clear hx hs
            go_wp2
            go_roundw
            case rel => exact ⟨k + 1, _, _, by omega, by go_num, by rw [H.out]; rfl, I2⟩
            case measure => simp [intOf]; omega
          · rw [hx] at hc1 hs
            have H := Lib.hid hs
            obtain ⟨g, cap, rfl, hg, hgl⟩ := I.own1.form (by omega)
            have I2 := I.bright (by have := Hl.out; omega) hx
            have d1 := I.own1.cellAt (k / 64) (by omega)
            rw [show (xsP l k (k / 64 + 1))[k / 64]? = some (.int .u64 (Bt.part (l.take k) (k / 64))) from by simp [xsP]] at d1
            have d2 := I.own1.frozenAt (k / 64)
            have d3 := part_room l k (by have := Hl.out; omega)
            have d4 : 2 ^ (k % 64) ≤ 2 ^ 63 := Nat.pow_le_pow_right (by omega) (by omega)
            have HW := Lib.hid (add_bit (Bt.part (l.take k) (k / 64)) (k % 64) d3 (by omega))
            generalize Bt.part (l.take k) (k / 64) = pt at d1 HW I2
            clear hx hs d3 d4
            go_wp2
            go_roundw
            case rel => exact ⟨k + 1, _, _, by omega, by go_num, by rw [H.out]; go_num, by rw [← HW.out] at I2; exact I2⟩
            case measure => simp [intOf]; omega
        · have I2 := I.past (by have := Hl.out; omega)
          have H := Lib.hid (show Bt.ones (l.take (k + 1)) = Bt.ones (l.take k) by rw [List.take_of_length_le (by have := Hl.out; omega), List.take_of_length_le (by have := Hl.out; omega)])
          go_wp2
          go_roundw
          case rel => exact ⟨k + 1, _, _, by omega, by go_num, by rw [H.out], I2⟩
          case measure => simp [intOf]; omega
    · have hk1 : k = n + 1 := by omega
      subst hk1
      rw [show (n + 1 + 63) / 64 = n / 64 + 1 from by omega] at I
      obtain ⟨g1, c1, rfl, hg1, _⟩ := I.own1.form (by omega)
      obtain ⟨g2, c2, rfl, hg2, _⟩ := I.own2.form (by omega)
      have b0 : wr.cell? ⟨w.heap.size + 1, 0, none⟩ = some (.int .i64 n) := I.box.cell (by omega)
      have b1 : wr.cell? ⟨w.heap.size + 1, 1, none⟩ = some (.slice (some ⟨g1, 0, none⟩) (n / 64 + 1) c1) := I.box.cell (by omega)
      have b2 : wr.cell? ⟨w.heap.size + 1, 2, none⟩ = some (.slice (some ⟨g2, 0, none⟩) (n / 64 + 1) c2) := I.box.cell (by omega)
      have z0 : wr.cell? ⟨w.heap.size, 0, none⟩ = some (.int .i64 0) := I.res.cell (by omega)
      have z1 : wr.cell? ⟨w.heap.size, 1, none⟩ = some (.slice none 0 0) := I.res.cell (by omega)
      have z2 : wr.cell? ⟨w.heap.size, 2, none⟩ = some (.slice none 0 0) := I.res.cell (by omega)
      have f0 : wr.frozen? ⟨w.heap.size, 0, none⟩ = false := I.res.frozen _
      have f1 : wr.frozen? ⟨w.heap.size, 1, none⟩ = false := I.res.frozen _
      have f2 : wr.frozen? ⟨w.heap.size, 2, none⟩ = false := I.res.frozen _
      go_wp2
      obtain ⟨s0, s1, s2⟩ := set3 I.res (.int .i64 n) (.slice (some ⟨g1, 0, none⟩) (n / 64 + 1) c1) (.slice (some ⟨g2, 0, none⟩) (n / 64 + 1) c2)
      refine bodyPost_ret (v := .agg #[.int .i64 n, .slice (some ⟨g1, 0, none⟩) (n / 64 + 1) c1, .slice (some ⟨g2, 0, none⟩) (n / 64 + 1) c2]) (by simp [results, Try.results14, go_sem, s0, s1, s2]) rfl ⟨_, c1, _, c2, rfl, by omega, by omega, ?_, ?_⟩
      · have h1 := ownsRow_setCell_below (ownsRow_setCell_below (ownsRow_setCell_below I.own1 (a := ⟨w.heap.size, 0, none⟩) (by simp) (.int .i64 n)) (a := ⟨w.heap.size, 1, none⟩) (by simp) (.slice (some ⟨g1, 0, none⟩) (n / 64 + 1) c1)) (a := ⟨w.heap.size, 2, none⟩) (by simp) (.slice (some ⟨g2, 0, none⟩) (n / 64 + 1) c2)
        have h2 := ownsRow_setCell_below (ownsRow_setCell_below (ownsRow_setCell_below I.own2 (a := ⟨w.heap.size, 0, none⟩) (by simp) (.int .i64 n)) (a := ⟨w.heap.size, 1, none⟩) (by simp) (.slice (some ⟨g1, 0, none⟩) (n / 64 + 1) c1)) (a := ⟨w.heap.size, 2, none⟩) (by simp) (.slice (some ⟨g2, 0, none⟩) (n / 64 + 1) c2)
        have el : l.take (n + 1) = l := List.take_of_length_le (by have := Hl.out; omega)
        unfold xsP at h1
        rw [el] at h1
        have hh := Hl.out
        subst hh
        exact ⟨Row.of_owns h1, Row.of_owns h2⟩
      · exact ((I.old.setCell (by simp) _).setCell (by simp) _).setCell (by simp) _

theorem bitsOf_any (A : Option Addr) (n c : Nat) (l : List Bool) (w : World) (hA : Row w w.heap.size A n (fun k => .bool (l.getD k false))) (hl : n = l.length) (hn : n ≤ 140737488355328) :
    Calls Try.prog 14 #[.slice A n c] w fun e w' =>
      ∃ A1 c1 A2 c2, e = .returned (.agg #[.int .i64 n, .slice A1 (n / 64 + 1) c1, .slice A2 (n / 64 + 1) c2]) ∧ IsBits w' w'.heap.size A1 A2 l ∧ Below w.heap.size w w' :=
  (bitsOf_new A n c l w hA hl hn).mono fun _ _ ⟨g1, c1, g2, c2, h1, _, _, h2, h3⟩ => ⟨some ⟨g1, 0, none⟩, c1, some ⟨g2, 0, none⟩, c2, h1, h2, h3⟩

end Go.Proofs.Ytgnakccbkglfpaa
