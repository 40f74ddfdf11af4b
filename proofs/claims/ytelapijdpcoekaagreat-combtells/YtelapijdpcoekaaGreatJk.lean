import Derived.Test.YtelapijdpcoekaaGreatJj
import Derived.Test.YtelapijdpcoekaaGreatJd
import Derived.Test.YtelapijdpcoekaaGreatJf
/- The reference's SameWave of two waves of one list. -/
namespace Go.Proofs.YtelapijdpcoekaaGreat
open Go.RowKit
attribute [local irreducible] Bt.pop Bt.popF

theorem sameBits_made (bs : List Bool) (N m : Nat) (A1 A2 B1 B2 : Option Addr) (c1 c2 c3 c4 : Nat) (w : World) (hI : IsBits w w.heap.size A1 A2 bs) (hJ : IsBits w w.heap.size B1 B2 bs) (hN : N = bs.length) (hm : m = bs.length / 64 + 1) (hs : bs.length ≤ 17592186044416) :
    Calls Tryz.prog 60 #[.agg #[.int .i64 N, .slice A1 m c1, .slice A2 m c2], .agg #[.int .i64 N, .slice B1 m c3, .slice B2 m c4]] w fun e w' => e = .returned (.bool true) ∧ Below w.heap.size w w' := by
  subst hN hm
  exact (sameBits_any _ _ _ _ _ _ _ _ _ _ _ _ _ _ (Bt.part bs) (Bt.part bs) (fun k => (Bt.ahd bs k : Nat)) (fun k => (Bt.ahd bs k : Nat)) w hI.parts hI.ahead hJ.parts hJ.ahead (by omega) (by omega)).mono
    fun _ _ ⟨r, he, hr, hb⟩ => ⟨he.trans (ret_bool (hr.2 ⟨rfl, rfl, ⟨rfl, fun _ _ => rfl⟩, fun _ _ => rfl⟩)), hb⟩

/-- two waves in two blocks of a function's own -/
structure TW (w : World) (N : Nat) (A B : Option Addr) (d c e : Nat) (l : List Nat) (W : World) : Prop where
  a0 : W.cell? ⟨w.heap.size, 0, none⟩ = some (.int .i64 N)
  a1 : W.cell? ⟨w.heap.size, 1, none⟩ = some (.int .i64 d)
  a2 : W.cell? ⟨w.heap.size, 2, none⟩ = some (.slice A d c)
  b0 : W.cell? ⟨w.heap.size + 1, 0, none⟩ = some (.int .i64 N)
  b1 : W.cell? ⟨w.heap.size + 1, 1, none⟩ = some (.int .i64 d)
  b2 : W.cell? ⟨w.heap.size + 1, 2, none⟩ = some (.slice B d e)
  wa : Wave W A d l
  wb : Wave W B d l
  big : w.heap.size + 2 ≤ W.heap.size
  old : Below w.heap.size w W
theorem TW.on {w : World} {N : Nat} {A B : Option Addr} {d c e : Nat} {l : List Nat} {W W' : World} (h : TW w N A B d c e l W) (hb : Below W.heap.size W W') : TW w N A B d c e l W' := by
  have := h.big
  have g : ∀ x y, x < w.heap.size + 2 → W'.cell? ⟨x, y, none⟩ = W.cell? ⟨x, y, none⟩ := fun x y hx => hb.cell (p := ⟨x, y, none⟩) (by simp; omega)
  exact ⟨(g _ _ (by omega)).trans h.a0, (g _ _ (by omega)).trans h.a1, (g _ _ (by omega)).trans h.a2, (g _ _ (by omega)).trans h.b0, (g _ _ (by omega)).trans h.b1, (g _ _ (by omega)).trans h.b2, h.wa.on hb, h.wb.on hb, Nat.le_trans h.big hb.size, h.old.trans (hb.mono h.old.size)⟩

set_option maxHeartbeats 2000000 in
theorem sameWave_any (A B : Option Addr) (d c e N : Nat) (l : List Nat) (w : World) (hA : Wave w A d l) (hB : Wave w B d l) (hN : N = l.length) :
    Calls Tryz.prog 31 #[.agg #[.int .i64 N, .int .i64 d, .slice A d c], .agg #[.int .i64 N, .int .i64 d, .slice B d e]] w fun x w' => x = .returned (.bool true) ∧ Below w.heap.size w w' := by
  have J0 : TW w N A B d c e l ((w.alloc (.cells #[.int .i64 N, .int .i64 d, .slice A d c] 27)).alloc (.cells #[.int .i64 N, .int .i64 d, .slice B d e] 27)) := by
    have hb : Below w.heap.size w ((w.alloc (.cells #[.int .i64 N, .int .i64 d, .slice A d c] 27)).alloc (.cells #[.int .i64 N, .int .i64 d, .slice B d e] 27)) := ((Below.refl _ _).alloc (Nat.le_refl _) _).alloc (by simp) _
    exact ⟨by simp, by simp, by simp, by simp, by simp, by simp, hA.on hb, hB.on hb, by simp, hb⟩
  have h16 := hA.d16
  have hsm := hA.small
  have HL : Hid (∀ W, TW w N A B d c e l W → ∀ k, k < d → ∃ b1 o1 b2 o2 A1 c1 A2 c2 B1 c3 B2 c4, A = some ⟨b1, o1, none⟩ ∧ B = some ⟨b2, o2, none⟩ ∧ b1 < w.heap.size ∧ b2 < w.heap.size ∧
      (W.cell? ⟨b1, o1 + k * 3, none⟩ = some (.int .i64 N) ∧ W.cell? ⟨b1, o1 + k * 3 + 1, none⟩ = some (.slice A1 (N / 64 + 1) c1) ∧ W.cell? ⟨b1, o1 + k * 3 + 2, none⟩ = some (.slice A2 (N / 64 + 1) c2)) ∧
      (W.cell? ⟨b2, o2 + k * 3, none⟩ = some (.int .i64 N) ∧ W.cell? ⟨b2, o2 + k * 3 + 1, none⟩ = some (.slice B1 (N / 64 + 1) c3) ∧ W.cell? ⟨b2, o2 + k * 3 + 2, none⟩ = some (.slice B2 (N / 64 + 1) c4)) ∧
      ∀ V, Below W.heap.size W V → Calls Tryz.prog 60 #[.agg #[.int .i64 N, .slice A1 (N / 64 + 1) c1, .slice A2 (N / 64 + 1) c2], .agg #[.int .i64 N, .slice B1 (N / 64 + 1) c3, .slice B2 (N / 64 + 1) c4]] V fun x w' => x = .returned (.bool true) ∧ Below V.heap.size V w') := Lib.hid fun W hW k hk => by
    obtain ⟨b1, o1, eA, hl1, hc1⟩ := hA.level
    obtain ⟨b2, o2, eB, hl2, hc2⟩ := hB.level
    obtain ⟨⟨A1, c1, A2, c2, p1, p2, p3, p4⟩, hla⟩ := hc1 k hk
    obtain ⟨⟨B1, c3, B2, c4, q1, q2, q3, q4⟩, _⟩ := hc2 k hk
    rw [hla, ← hN] at p1 p2 p3 q1 q2 q3
    have hb := hW.old
    refine ⟨b1, o1, b2, o2, A1, c1, A2, c2, B1, c3, B2, c4, eA, eB, hl1, hl2, ⟨(hb.cell (p := ⟨b1, o1 + k * 3, none⟩) hl1).trans p1, (hb.cell (p := ⟨b1, o1 + k * 3 + 1, none⟩) hl1).trans p2, (hb.cell (p := ⟨b1, o1 + k * 3 + 2, none⟩) hl1).trans p3⟩,
      ⟨(hb.cell (p := ⟨b2, o2 + k * 3, none⟩) hl2).trans q1, (hb.cell (p := ⟨b2, o2 + k * 3 + 1, none⟩) hl2).trans q2, (hb.cell (p := ⟨b2, o2 + k * 3 + 2, none⟩) hl2).trans q3⟩, fun V hV => ?_⟩
    have hb2 := hb.trans (hV.mono hb.size)
    exact sameBits_made (Wv.lbits (d - 1 - k) (2 ^ k) l) N (N / 64 + 1) A1 A2 B1 B2 c1 c2 c3 c4 V ((p4.below hb2).more hb2.size) ((q4.below hb2).more hb2.size) (by rw [hla]; exact hN) (by rw [hla, ← hN]) (by omega)
  have t1 : ((N : Int) != (N : Int)) = false := by simp
  have t2 : ((d : Int) != (d : Int)) = false := by simp
  clear hA hB hN
  obtain ⟨V0, hV0⟩ : ∃ V0, V0 = ((w.alloc (.cells #[.int .i64 N, .int .i64 d, .slice A d c] 27)).alloc (.cells #[.int .i64 N, .int .i64 d, .slice B d e] 27)) := ⟨_, rfl⟩
  rw [← hV0] at J0
  have HV0 := Lib.hid hV0
  clear hV0
  go_enter Tryz.func31, Tryz.ntmps31
  go_upto_region 1 with fail
  rw [← HV0.out]
  have j0 := J0.a0
  have j1 := J0.a1
  have j2 := J0.a2
  have j3 := J0.b0
  have j4 := J0.b1
  have j5 := J0.b2
  clear HV0
  go_wp2
  go_loopw [30] (fun s W => ∃ k : Nat, k ≤ d ∧ s = .int .i64 k ∧ TW w N A B d c e l W) (fun s _ => d - (intOf s).toNat)
  case atStart => exact ⟨0, Nat.zero_le _, rfl, J0⟩
  case round =>
    clear J0 j0 j1 j2 j3 j4 j5 t1 t2
    obtain ⟨k, hk, rfl, J⟩ := hrel
    by_cases hlt : k < d
    · obtain ⟨b1, o1, b2, o2, A1, c1, A2, c2, B1, c3, B2, c4, rfl, rfl, _, _, ⟨p1, p2, p3⟩, ⟨q1, q2, q3⟩, hS⟩ := HL.out wr J k hlt
      have hlz : (k : Int) < (d : Int) := by omega
      have HS := Lib.hid (hS wr.drew (Below.refl _ _).drew)
      have HJ := Lib.hid (J.on (Below.refl _ _).drew)
      have j2 := J.a2
      have j5 := J.b2
      clear hS HL J
      generalize N / 64 + 1 = mp at *
      go_upto_region 6 with fail
      refine wp_region_takes 11 [0, 1, 2, 3, 4, 5, 6, 7, 8, 9] [10] (fun w' => w'.cell? ⟨w.heap.size, 2, none⟩ = some (.slice (some ⟨b1, o1, none⟩) d c) ∧ w'.cell? ⟨w.heap.size + 1, 2, none⟩ = some (.slice (some ⟨b2, o2, none⟩) d e) ∧ w'.cell? ⟨b1, o1 + k * 3, none⟩ = some (.int .i64 N) ∧ w'.cell? ⟨b1, o1 + k * 3 + 1, none⟩ = some (.slice A1 mp c1) ∧ w'.cell? ⟨b1, o1 + k * 3 + 2, none⟩ = some (.slice A2 mp c2) ∧
        w'.cell? ⟨b2, o2 + k * 3, none⟩ = some (.int .i64 N) ∧ w'.cell? ⟨b2, o2 + k * 3 + 1, none⟩ = some (.slice B1 mp c3) ∧ w'.cell? ⟨b2, o2 + k * 3 + 2, none⟩ = some (.slice B2 mp c4)) (by kernel_rfl) (by kernel_rfl) ⟨j2, j5, p1, p2, p3, q1, q2, q3⟩ ?_
      refine wpTakes_cons (v := ?_) _ at0 rfl ?_ ?_ ?_
      rotate_left 1
      · rintro W ⟨x0, x1, x2, x3, x4, x5, x6, x7⟩
        go_simp
        rfl
      · exact fun _ _ _ h => h
      simp only [Act.put, List.setIfInBounds_toArray, List.set_cons_zero, List.set_cons_succ]
      refine wpTakes_cons (v := ?_) _ at1 rfl ?_ ?_ ?_
      rotate_left 1
      · rintro W ⟨x0, x1, x2, x3, x4, x5, x6, x7⟩
        go_simp
        rfl
      · exact fun _ _ _ h => h
      simp only [Act.put, List.setIfInBounds_toArray, List.set_cons_zero, List.set_cons_succ]
      refine wpTakes_cons (v := ?_) _ at2 rfl ?_ ?_ ?_
      rotate_left 1
      · rintro W ⟨x0, x1, x2, x3, x4, x5, x6, x7⟩
        go_simp
        rfl
      · exact fun _ _ _ h => h
      simp only [Act.put, List.setIfInBounds_toArray, List.set_cons_zero, List.set_cons_succ]
      refine wpTakes_cons (v := ?_) _ at3 rfl ?_ ?_ ?_
      rotate_left 1
      · rintro W ⟨x0, x1, x2, x3, x4, x5, x6, x7⟩
        go_simp
        rfl
      · exact fun _ _ _ h => h
      simp only [Act.put, List.setIfInBounds_toArray, List.set_cons_zero, List.set_cons_succ]
      refine wpTakes_cons (v := ?_) _ at4 rfl ?_ ?_ ?_
      rotate_left 1
      · rintro W ⟨x0, x1, x2, x3, x4, x5, x6, x7⟩
        go_simp
        rfl
      · exact fun _ _ _ h => h
      simp only [Act.put, List.setIfInBounds_toArray, List.set_cons_zero, List.set_cons_succ]
      refine wpTakes_cons (v := ?_) _ at5 rfl ?_ ?_ ?_
      rotate_left 1
      · rintro W ⟨x0, x1, x2, x3, x4, x5, x6, x7⟩
        go_simp
        rfl
      · exact fun _ _ _ h => h
      simp only [Act.put, List.setIfInBounds_toArray, List.set_cons_zero, List.set_cons_succ]
      refine wpTakes_cons (v := ?_) _ at6 rfl ?_ ?_ ?_
      rotate_left 1
      · rintro W ⟨x0, x1, x2, x3, x4, x5, x6, x7⟩
        go_simp
        rfl
      · exact fun _ _ _ h => h
      simp only [Act.put, List.setIfInBounds_toArray, List.set_cons_zero, List.set_cons_succ]
      refine wpTakes_cons (v := ?_) _ at7 rfl ?_ ?_ ?_
      rotate_left 1
      · rintro W ⟨x0, x1, x2, x3, x4, x5, x6, x7⟩
        go_simp
        rfl
      · exact fun _ _ _ h => h
      simp only [Act.put, List.setIfInBounds_toArray, List.set_cons_zero, List.set_cons_succ]
      refine wpTakes_cons (v := ?_) _ at8 rfl ?_ ?_ ?_
      rotate_left 1
      · rintro W ⟨x0, x1, x2, x3, x4, x5, x6, x7⟩
        go_simp
        rfl
      · exact fun _ _ _ h => h
      simp only [Act.put, List.setIfInBounds_toArray, List.set_cons_zero, List.set_cons_succ]
      refine wpTakes_cons (v := ?_) _ at9 rfl ?_ ?_ ?_
      rotate_left 1
      · rintro W ⟨x0, x1, x2, x3, x4, x5, x6, x7⟩
        go_simp
        rfl
      · exact fun _ _ _ h => h
      simp only [Act.put, List.setIfInBounds_toArray, List.set_cons_zero, List.set_cons_succ]
      refine wpTakes_nil (wpCalls_cons _ at10 rfl fun K hK => ?_)
      go_simp
      go_at_call 60
      refine HS.out.mono ?_
      rintro x w3 ⟨rfl, hb3⟩
      have J3 := HJ.out.on hb3
      have keep : ∀ b o, b < wr.heap.size → w3.cell? ⟨b, o, none⟩ = wr.cell? ⟨b, o, none⟩ := fun b o hb => hb3.cell (p := ⟨b, o, none⟩) hb
      refine hK.out _ _ ⟨J3.a2, J3.b2, (keep _ _ (World.block_lt_of_cell? _ _ p1)).trans p1, (keep _ _ (World.block_lt_of_cell? _ _ p2)).trans p2, (keep _ _ (World.block_lt_of_cell? _ _ p3)).trans p3, (keep _ _ (World.block_lt_of_cell? _ _ q1)).trans q1, (keep _ _ (World.block_lt_of_cell? _ _ q2)).trans q2, (keep _ _ (World.block_lt_of_cell? _ _ q3)).trans q3⟩ (wpCalls_nil ?_)
      clear hK HS HJ keep hb3 p1 p2 p3 q1 q2 q3 j2 j5
      simp only [List.drop_succ_cons, List.drop_zero]
      go_wp2
      go_roundw
      case rel => exact ⟨k + 1, by omega, by go_num, J3⟩
      case measure => simp [intOf]; omega
    · have hold := J.old
      clear HL J
      go_wp2
      go_ret
      exact ⟨rfl, hold⟩

end Go.Proofs.YtelapijdpcoekaaGreat

/- The reference's WaveOf: the same as Make. -/
namespace Go.Proofs.YtelapijdpcoekaaGreat
open Go.RowKit
attribute [local irreducible] Bt.pop Bt.popF

/-- the memory of WaveOf -/
structure MR (w : World) (l : List Nat) (d k : Nat) (v : Value) (xs : List Value) (W : World) : Prop where
  res : W.rowIs w.heap.size 27 3 (wvF 0 0 (.slice none 0 0))
  box : W.rowIs (w.heap.size + 1) 27 3 (wvF l.length d v)
  lv : LvO (w.heap.size + 2) l d k v xs W
  old : Below w.heap.size w W
section
variable {w : World} {l : List Nat} {d k : Nat} {v : Value} {xs : List Value} {W W' : World}
theorem MR.on (h : MR w l d k v xs W) (hb : Below W.heap.size W W') : MR w l d k v xs W' :=
  ⟨h.res.of_block (hb.block _ h.res.lt), h.box.of_block (hb.block _ h.box.lt), h.lv.on hb, h.old.trans (hb.mono h.old.size)⟩
theorem MR.c2 (h : MR w l d k v xs W) : W.cell? ⟨w.heap.size + 1, 2, none⟩ = some v := h.box.cell (i := 2) (by omega)
theorem MR.far (h : MR w l d k v xs W) (hg : W.grownBy W' v.ownBlock) : W'.rowIs (w.heap.size + 1) 27 3 (wvF l.length d v) :=
  h.box.of_block (hg.block _ h.box.lt (fun e => by have := (h.lv.own.lt _ e.symm).1; omega))
theorem MR.app (h : MR w l d k v xs W) {v' : Value} {xs' : List Value} (hg : W.grownBy W' v.ownBlock) (hlv : LvO (w.heap.size + 2) l d (k + 1) v' xs' W') : MR w l d (k + 1) v' xs' (W'.setCell ⟨w.heap.size + 1, 2, none⟩ v') := by
  have hres := h.res.of_block (hg.block _ h.res.lt (fun e => by have := (h.lv.own.lt _ e.symm).1; omega))
  have hold := h.old.grown hg h.old.size (fun g hgo => by have := (h.lv.own.lt g hgo).1; omega)
  refine ⟨hres.setOther (by simp) _, ((h.far hg).set 2 v').congr (fun i hi => ?_), hlv.low _ _ (by simp), hold.setCell (by simp) _⟩
  match i, hi with
  | 0, _ => rfl
  | 1, _ => rfl
  | 2, _ => rfl
end

/-- the bits of a level, so far -/
def preB (l : List Nat) (s p m : Nat) : List Bool := (Wv.lev (s + 1) p l ++ Wv.grp (s + 1) p (l.take m)).map (Wv.bit s)
theorem preB_zero (l : List Nat) (s : Nat) : preB l s 0 0 = [] := by simp [preB, Wv.lev, Wv.grp]
theorem preB_yes (l : List Nat) (s p m : Nat) (hm : m < l.length) (h : l.getD m 0 / 2 ^ (s + 1) = p) : preB l s p (m + 1) = preB l s p m ++ [Wv.bit s (l.getD m 0)] := by
  have e : l.take (m + 1) = l.take m ++ [l.getD m 0] := by
    rw [List.take_succ_eq_append_getElem hm, List.getD_eq_getElem?_getD, List.getElem?_eq_getElem hm]; rfl
  have e2 : Wv.grp (s + 1) p [l.getD m 0] = [l.getD m 0] := by unfold Wv.grp; rw [List.filter_cons, if_pos (by rw [h]; simp)]; rfl
  unfold preB
  rw [e, Wv.grp_append, e2, ← List.append_assoc, List.map_append]; rfl
theorem preB_no (l : List Nat) (s p m : Nat) (hm : m < l.length) (h : ¬ l.getD m 0 / 2 ^ (s + 1) = p) : preB l s p (m + 1) = preB l s p m := by
  have e : l.take (m + 1) = l.take m ++ [l.getD m 0] := by
    rw [List.take_succ_eq_append_getElem hm, List.getD_eq_getElem?_getD, List.getElem?_eq_getElem hm]; rfl
  have e2 : Wv.grp (s + 1) p [l.getD m 0] = [] := by unfold Wv.grp; rw [List.filter_cons, if_neg (by simpa using h)]; rfl
  unfold preB
  rw [e, Wv.grp_append, e2, List.append_nil]
theorem preB_next (l : List Nat) (s p : Nat) : preB l s p l.length = preB l s (p + 1) 0 := by
  unfold preB
  rw [List.take_length, List.take_zero, Wv.lev_succ]
  simp [Wv.grp]
theorem preB_end (l : List Nat) (s p : Nat) : preB l s p 0 = Wv.lbits s p l := by
  unfold preB Wv.lbits
  simp [Wv.grp]
theorem preB_len (l : List Nat) (s k p m : Nat) (hf : ∀ n ∈ l, n < 2 ^ (s + 1 + k)) (hp : p < 2 ^ k) : (preB l s p m).length ≤ l.length := by
  unfold preB
  rw [List.length_map, List.length_append]
  have h1 : Wv.st (s + 1) p l + Wv.cnt (s + 1) p l ≤ l.length := by rw [← Wv.st_all (s + 1) k l hf]; exact Wv.st_mono _ _ _ _ hp
  have h2 := Wv.cnt_take_le (s + 1) p m l
  unfold Wv.st Wv.cnt at h1
  unfold Wv.cnt at h2
  omega

theorem bit_rem (x s : Nat) (y : Bool) (h : Wv.bit s x = y) : ((x : Int) / 2 ^ s % 2 == 1) = y ∧ (((x : Int) / 2 ^ s).tmod 2 == 1) = y := by
  have e : (x : Int) / 2 ^ s = ((x / 2 ^ s : Nat) : Int) := by simp
  have e2 : ((x : Int) / 2 ^ s % 2 == 1) = y := by
    rw [e, ← h]
    unfold Wv.bit
    rw [Bool.eq_iff_iff]; simp only [beq_iff_eq]; omega
  refine ⟨e2, ?_⟩
  rw [Int.tmod_eq_emod_of_nonneg (by rw [e]; exact Int.natCast_nonneg _)]
  exact e2
theorem div_eq_cast (x s p : Nat) : ((x : Int) / 2 ^ s == (p : Int)) = decide (x / 2 ^ s = p) := by
  rw [show (x : Int) / 2 ^ s = ((x / 2 ^ s : Nat) : Int) from by simp, Bool.eq_iff_iff]
  simp only [beq_iff_eq, decide_eq_true_eq]; omega

set_option maxHeartbeats 4000000 in
theorem waveOf_any (A : Option Addr) (c : Nat) (l : List Nat) (d : Nat) (w : World) (hr : NRow w w.heap.size A l) (h1 : 1 ≤ d) (h16 : d ≤ 16) (hf : ∀ n ∈ l, n < 2 ^ d) (hs : l.length ≤ 17592186043904) :
    Calls Tryz.prog 32 #[.slice A l.length c, .int .i64 d] w fun e w' => ∃ A' c', e = .returned (.agg #[.int .i64 l.length, .int .i64 d, .slice A' d c']) ∧ d ≤ c' ∧ Wave w' A' d l ∧ Below w.heap.size w w' := by
  have HR : Hid (∀ W, Below w.heap.size w W → ∀ k, k < l.length → ∃ b o, A = some ⟨b, o, none⟩ ∧ W.cell? ⟨b, o + k, none⟩ = some (.int .i64 ((l.getD k 0 : Nat) : Int)) ∧ l.getD k 0 < 65536) := Lib.hid fun W h k hk => by
    obtain ⟨b, o, e, hb, hc⟩ := hr (by omega)
    refine ⟨b, o, e, (h.cell (p := ⟨b, o + k, none⟩) hb).trans (hc k hk), ?_⟩
    have h3 := hf (l.getD k 0) (by rw [List.getD_eq_getElem?_getD, List.getElem?_eq_getElem hk]; exact List.getElem_mem hk)
    have h4 : 2 ^ d ≤ 2 ^ 16 := Nat.pow_le_pow_right (by omega) h16
    omega
  obtain ⟨V, hV⟩ : ∃ V, V = (w.alloc (.cells #[.int .i64 0, .int .i64 0, .slice none 0 0] 27)).alloc (.cells #[.int .i64 l.length, .int .i64 d, .slice none 0 0] 27) := ⟨_, rfl⟩
  have M0 : MR w l d 0 (.slice none 0 0) [] V := by
    have e1 := wvF_alloc w 0 0 (.slice none 0 0)
    have e2 := wvF_alloc (w.alloc (.cells #[.int .i64 0, .int .i64 0, .slice none 0 0] 27)) l.length d (.slice none 0 0)
    rw [World.size_alloc] at e2
    rw [hV]
    exact ⟨e1.alloc _, e2, LvO.nil _ _ _ _, ((Below.refl _ _).alloc (Nat.le_refl _) _).alloc (by simp) _⟩
  have HV := Lib.hid hV
  clear hV hr
  go_enter Tryz.func32, Tryz.ntmps32
  go_upto_region 2 with fail
  rw [← HV.out]
  clear HV
  go_wp2
  go_loopw [16] (fun t W => ∃ (k : Nat) (v : Value) (xs : List Value), k ≤ d ∧ t = .int .i64 k ∧ MR w l d k v xs W) (fun t _ => d - (intOf t).toNat)
  case atStart => exact ⟨0, _, _, Nat.zero_le _, rfl, M0⟩
  case round =>
    clear M0
    obtain ⟨k, v, xs, hk, rfl, M⟩ := hrel
    by_cases hlt : k < d
    · have hlz : (k : Int) < (d : Int) := by omega
      have hp2 : wrap64 ((2 : Int) ^ k) = ((2 ^ k : Nat) : Int) := (wrap_pow k (by omega)).trans (by simp)
      have hp3 : 2 ^ k ≤ 2 ^ 16 := Nat.pow_le_pow_right (by omega) (by omega)
      have hf' : ∀ n ∈ l, n < 2 ^ (d - 1 - k + 1 + k) := by rw [show d - 1 - k + 1 + k = d from by omega]; exact hf
      have Q1 : Hid (∀ p m, m < l.length → l.getD m 0 / 2 ^ (d - k) = p → preB l (d - 1 - k) p (m + 1) = preB l (d - 1 - k) p m ++ [Wv.bit (d - 1 - k) (l.getD m 0)]) := Lib.hid fun p m hm h => preB_yes l _ p m hm (by rw [show d - 1 - k + 1 = d - k from by omega]; exact h)
      have Q2 : Hid (∀ p m, m < l.length → ¬ l.getD m 0 / 2 ^ (d - k) = p → preB l (d - 1 - k) p (m + 1) = preB l (d - 1 - k) p m) := Lib.hid fun p m hm h => preB_no l _ p m hm (by rw [show d - 1 - k + 1 = d - k from by omega]; exact h)
      have Q3 := Lib.hid (preB_next l (d - 1 - k))
      have Q4 := Lib.hid (preB_end l (d - 1 - k) (2 ^ k))
      have Q5 := Lib.hid (fun p m hp => preB_len l (d - 1 - k) k p m hf' hp)
      have Q0 := Lib.hid (preB_zero l (d - 1 - k))
      generalize preB l (d - 1 - k) = F at *
      generalize hP : 2 ^ k = P at *
      have HP := Lib.hid hP
      clear hP hf'
      generalize wr = V0 at *
      go_wp2
      go_loopw [7, 22] (fun s7 t W => ∃ p : Nat, p ≤ P ∧ t = .int .i64 p ∧ OB V0 (F p 0) s7 W) (fun _ t _ => P - (intOf t).toNat)
      case atStart => exact ⟨0, Nat.zero_le _, rfl, by rw [Q0.out]; exact OB.nil V0 V0 (Below.refl _ _)⟩
      case round =>
        obtain ⟨p, hp, rfl, I⟩ := hrel
        by_cases hlt2 : p < P
        · have hlz2 : (p : Int) < (P : Int) := by omega
          generalize wr = V1 at *
          go_wp2
          go_loopw [7, 27] (fun s7 t W => ∃ m : Nat, m ≤ l.length ∧ t = .int .i64 m ∧ OB V0 (F p m) s7 W) (fun _ t _ => l.length - (intOf t).toNat)
          case atStart => exact ⟨0, Nat.zero_le _, rfl, I⟩
          case round =>
            clear I
            obtain ⟨m, hm, rfl, I⟩ := hrel
            by_cases hlt3 : m < l.length
            · obtain ⟨b, o, rfl, hc1, hx⟩ := HR.out wr (M.old.trans (I.old.mono M.old.size)) m hlt3
              have hlz3 : (m : Int) < (l.length : Int) := by omega
              have E1 := Lib.hid (Q1.out p m hlt3)
              have E2 := Lib.hid (Q2.out p m hlt3)
              have n1 := Q5.out p m hlt2
              have v1 : ((d : Int) - (k : Int)).toNat = d - k := by omega
              have v2 : ((d : Int) - (k : Int) - 1).toNat = d - 1 - k := by omega
              clear Q0 Q1 Q2 Q3 Q4 Q5 HR
              generalize l.getD m 0 = x at *
              by_cases hq : x / 2 ^ (d - k) = p
              · have t1 : ((x : Int) / 2 ^ (d - k) == (p : Int)) = true := by rw [div_eq_cast]; simp [hq]
                have E3 := Lib.hid (E1.out hq)
                clear hq E1 E2
                cases hy : Wv.bit (d - 1 - k) x
                · obtain ⟨t4, t5⟩ := bit_rem x (d - 1 - k) false hy
                  rw [hy] at E3
                  clear hy
                  have HJ : Hid (∀ v' W', W'.ownsRow V0.heap.size 4 1 v' ((F p m).length + 1) ((F p m).map Value.bool ++ [.bool false]) → (wr.alloc (.cells #[.bool false] 4)).grownBy W' u7.ownBlock → OB V0 (F p (m + 1)) v' W') := Lib.hid fun v' W' g1 g2 => by
                    have := (I.on ((Below.refl _ wr).alloc (Nat.le_refl _) (.cells #[.bool false] 4))).app false g1 g2
                    rw [E3.out]; exact this
                  have J1 := I.on ((Below.refl _ wr).alloc (Nat.le_refl _) (.cells #[.bool false] 4))
                  have hsz := I.old.size
                  have hmx : (F p m).length + 1 ≤ maxLen := by unfold maxLen; omega
                  clear E3 I hp2 hp3
                  go_wp2_with (at_builtin; refine wpList_app1 _ rfl _ _ 70 rfl V0.heap.size 4 (.bool false) 1 Tryz.underlying70 infoBool rfl _ (F p m).length ((F p m).map Value.bool) rfl wr.heap.size (.bool false) rfl J1.own (new1 _ _ _) (by simp) rfl hmx (by omega) (by simp; omega) ?_; intro v' w2 g2 g3 g4)
                  have J3 := HJ.out v' w2 g2 g3
                  go_roundw
                  case rel => exact ⟨m + 1, by omega, by go_num, J3⟩
                  case measure => simp [intOf]; omega
                · obtain ⟨t4, t5⟩ := bit_rem x (d - 1 - k) true hy
                  rw [hy] at E3
                  clear hy
                  have HJ : Hid (∀ v' W', W'.ownsRow V0.heap.size 4 1 v' ((F p m).length + 1) ((F p m).map Value.bool ++ [.bool true]) → (wr.alloc (.cells #[.bool true] 4)).grownBy W' u7.ownBlock → OB V0 (F p (m + 1)) v' W') := Lib.hid fun v' W' g1 g2 => by
                    have := (I.on ((Below.refl _ wr).alloc (Nat.le_refl _) (.cells #[.bool true] 4))).app true g1 g2
                    rw [E3.out]; exact this
                  have J1 := I.on ((Below.refl _ wr).alloc (Nat.le_refl _) (.cells #[.bool true] 4))
                  have hsz := I.old.size
                  have hmx : (F p m).length + 1 ≤ maxLen := by unfold maxLen; omega
                  clear E3 I hp2 hp3
                  go_wp2_with (at_builtin; refine wpList_app1 _ rfl _ _ 70 rfl V0.heap.size 4 (.bool false) 1 Tryz.underlying70 infoBool rfl _ (F p m).length ((F p m).map Value.bool) rfl wr.heap.size (.bool true) rfl J1.own (new1 _ _ _) (by simp) rfl hmx (by omega) (by simp; omega) ?_; intro v' w2 g2 g3 g4)
                  have J3 := HJ.out v' w2 g2 g3
                  go_roundw
                  case rel => exact ⟨m + 1, by omega, by go_num, J3⟩
                  case measure => simp [intOf]; omega
              · have t1 : ((x : Int) / 2 ^ (d - k) == (p : Int)) = false := by rw [div_eq_cast]; simp [hq]
                have E3 := Lib.hid (E2.out hq)
                clear hq E1 E2
                go_wp2
                go_roundw
                case rel => exact ⟨m + 1, by omega, by go_num, by rw [E3.out]; exact I⟩
                case measure => simp [intOf]; omega
            · have hmn : m = l.length := by omega
              subst hmn
              rw [Q3.out] at I
              clear Q0 Q1 Q2 Q3 Q4 Q5 HR
              go_wp2
              go_roundw
              case rel => exact ⟨p + 1, by omega, by go_num, I⟩
              case measure => simp [intOf]; omega
        · have hpn : p = P := by omega
          subst hpn
          rw [Q4.out] at I
          have hblen : (Wv.lbits (d - 1 - k) p l).length = l.length := by
            rw [← HP.out]
            exact Wv.lbits_len _ _ _ (by rw [show d - 1 - k + 1 + k = d from by omega]; exact hf)
          obtain ⟨Ab, cb, rfl, _⟩ := own_slice I.own
          obtain ⟨_, hrow⟩ := own_row false I.own
          have M1 := M.on I.old
          rw [hblen] at hrow
          have HBo := Lib.hid (fun W (hb : Below wr.heap.size wr W) => show Calls Tryz.prog 61 #[.slice Ab l.length cb] W fun e w' => ∃ g1 c1 g2 c2, e = .returned (.agg #[.int .i64 l.length, .slice (some ⟨g1, 0, none⟩) (l.length / 64 + 1) c1, .slice (some ⟨g2, 0, none⟩) (l.length / 64 + 1) c2]) ∧ w.heap.size + 2 ≤ g1 ∧ w.heap.size + 2 ≤ g2 ∧ some g1 ≠ v.ownBlock ∧ some g2 ≠ v.ownBlock ∧ IsBits w' w'.heap.size (some ⟨g1, 0, none⟩) (some ⟨g2, 0, none⟩) (Wv.lbits (d - 1 - k) p l) ∧ MR w l d k v xs w' from by
            refine (bitsOf_new Ab l.length cb (Wv.lbits (d - 1 - k) p l) W ((hrow.below hb).more hb.size) hblen.symm (by omega)).mono ?_
            rintro e w' ⟨g1, c1, g2, c2, rfl, p1, p2, hI, hb'⟩
            have M2 := M1.on hb
            have hlx := M2.box.lt
            have hne : ∀ x, W.heap.size ≤ x → some x ≠ v.ownBlock := fun x hx e => by have := (M2.lv.own.lt x e.symm).2; omega
            exact ⟨g1, c1, g2, c2, rfl, by omega, by omega, hne g1 p1, hne g2 p2, hI, M2.on hb'⟩)
          have c2 := M1.c2
          have h63 : k + 1 ≤ maxLen := by unfold maxLen; omega
          have hby : (k + 1) * 56 ≤ 140737488355328 := by omega
          rw [hblen]
          clear hblen hrow I Q0 Q1 Q2 Q3 Q4 Q5 HR M M1
          have hLB : Wv.lbits (d - 1 - k) p l = Wv.lbits (d - 1 - k) (2 ^ k) l := by rw [HP.out]
          rw [hLB] at HBo
          clear hLB
          go_upto_region 16 with fail
          clear hp2 hp3
          refine wp_region_takes 5 [0, 1, 2] [3, 4] (fun w' => w'.cell? ⟨w.heap.size + 1, 2, none⟩ = some v) (by kernel_rfl) (by kernel_rfl) c2 ?_
          refine wpTakes_cons (v := ?_) _ at0 rfl ?_ ?_ ?_
          rotate_left 1
          · intro W x0
            go_simp
            rfl
          · exact fun _ _ _ h => h
          simp only [Act.put, List.setIfInBounds_toArray, List.set_cons_zero, List.set_cons_succ]
          refine wpTakes_cons (v := ?_) _ at1 rfl ?_ ?_ ?_
          rotate_left 1
          · intro W x0
            go_simp
            rfl
          · exact fun _ _ _ h => h
          simp only [Act.put, List.setIfInBounds_toArray, List.set_cons_zero, List.set_cons_succ]
          refine wpTakes_cons (v := ?_) _ at2 rfl ?_ ?_ ?_
          rotate_left 1
          · intro W x0
            go_simp
            rfl
          · exact fun _ _ _ h => h
          simp only [Act.put, List.setIfInBounds_toArray, List.set_cons_zero, List.set_cons_succ]
          refine wpTakes_nil (wpCalls_cons _ at3 rfl fun K hK => ?_)
          go_simp
          go_at_call 61
          refine (HBo.out _ (Below.refl _ _).drew).mono ?_
          rintro e w4 ⟨g, c1, g2, c3, rfl, p1, p2, n1, n2, hI, J3⟩
          refine hK.out _ _ J3.c2 ?_
          clear hK
          refine wpCalls_cons _ at4 rfl fun K hK => ?_
          go_simp
          have hbb := (Below.refl _ w4).alloc (Nat.le_refl _) (.cells #[.int .i64 l.length, .slice (some ⟨g, 0, none⟩) (l.length / 64 + 1) c1, .slice (some ⟨g2, 0, none⟩) (l.length / 64 + 1) c3] 68)
          have J4 := J3.on hbb
          have hI4 := (hI.below hbb).more hbb.size
          refine hK.out _ _ J4.c2 (wpCalls_nil ?_)
          clear hK J3 hI
          simp only [List.drop_succ_cons, List.drop_zero]
          obtain ⟨bi, hbi, hbz⟩ := Option.map_eq_some_iff.1 infoBits4
          simp only [Prod.mk.injEq] at hbz
          obtain ⟨z1, z2, z3⟩ := hbz
          have hx1 := J4.box.lt
          obtain ⟨W4, hW4⟩ : ∃ W4, W4 = w4.alloc (.cells #[.int .i64 l.length, .slice (some ⟨g, 0, none⟩) (l.length / 64 + 1) c1, .slice (some ⟨g2, 0, none⟩) (l.length / 64 + 1) c3] 68) := ⟨_, rfl⟩
          have hnews : ∀ j u, ([.int .i64 l.length, .slice (some ⟨g, 0, none⟩) (l.length / 64 + 1) c1, .slice (some ⟨g2, 0, none⟩) (l.length / 64 + 1) c3] : List Value)[j]? = some u → W4.cell? ((⟨w4.heap.size, 0, none⟩ : Addr).add j) = some u := by
            rw [hW4]
            exact World.news_of_block (t := 68) (fr := (0, 0)) (heap_alloc_new w4 _)
          rw [← hW4] at J4 hI4 hx1 ⊢
          clear hW4 hbb
          go_wp2_with (at_builtin; refine wpList_append_lies _ rfl _ _ 25 rfl (w.heap.size + 2) 68 bi _ 3 56 Tryz.underlying25 hbi z1 z2 z3 rfl (by omega) v k xs rfl J4.lv.own ⟨w4.heap.size, 0, none⟩ 1 1 _ rfl rfl hnews (by intro u hu; simp at hu; rcases hu with rfl | rfl | rfl <;> rfl) (by omega) h63 hby (by omega) _ rfl ?_; intro g5 cap5 w5 o5 gr5 at5 lt5; have b5 := J4.far gr5; have e5 : w5.cell? ⟨w.heap.size + 1, 2, none⟩ = some v := b5.cell (i := 2) (by omega); have f5 := b5.frozen 2)
          have L5 : LvO (w.heap.size + 2) l d (k + 1) (.slice (some ⟨g5, 0, none⟩) (k + 1) cap5) _ w5 := J4.lv.app g g2 _ _ p1 p2 hI4 n1 n2 gr5 (at5.elim (fun h => .inl h.symm) (fun h => .inr (congrArg some h))) o5
          have M6 := J4.app gr5 L5
          go_roundw
          case rel => exact ⟨k + 1, _, _, by omega, by go_num, M6⟩
          case measure => simp [intOf]; omega
    · have hkd : k = d := by omega
      subst hkd
      obtain ⟨A9, c9, rfl⟩ : ∃ A9 c9, v = .slice A9 k c9 := by
        rcases M.lv.own.2 with ⟨e, h0⟩ | ⟨g, cap, cur, e, _⟩
        · exact ⟨none, 0, by rw [e]; congr 1; exact h0.symm⟩
        · exact ⟨_, _, e⟩
      obtain ⟨_, hcap, hLV⟩ := M.lv.lv hf
      have HC := Lib.hid hcap
      have x0 : wr.cell? ⟨w.heap.size + 1, 0, none⟩ = some (.int .i64 l.length) := M.box.cell (i := 0) (by omega)
      have x1 : wr.cell? ⟨w.heap.size + 1, 1, none⟩ = some (.int .i64 k) := M.box.cell (i := 1) (by omega)
      have x2 : wr.cell? ⟨w.heap.size + 1, 2, none⟩ = some (.slice A9 k c9) := M.box.cell (i := 2) (by omega)
      have r0 : wr.cell? ⟨w.heap.size, 0, none⟩ = some (.int .i64 0) := M.res.cell (i := 0) (by omega)
      have r1 : wr.cell? ⟨w.heap.size, 1, none⟩ = some (.int .i64 0) := M.res.cell (i := 1) (by omega)
      have r2 : wr.cell? ⟨w.heap.size, 2, none⟩ = some (.slice none 0 0) := M.res.cell (i := 2) (by omega)
      have f0 := M.res.frozen 0
      have f1 := M.res.frozen 1
      have f2 := M.res.frozen 2
      have HRs := Lib.hid (((M.res.set 0 (.int .i64 l.length)).set 1 (.int .i64 k)).set 2 (.slice A9 k c9))
      have hold := M.old
      have HW9 : Hid (∀ a b e : Value, Wave (((wr.setCell ⟨w.heap.size, 0, none⟩ a).setCell ⟨w.heap.size, 1, none⟩ b).setCell ⟨w.heap.size, 2, none⟩ e) A9 k l) := Lib.hid fun a b e => by
        have L := ((M.lv.low ⟨w.heap.size, 0, none⟩ a (by show w.heap.size < w.heap.size + 2; omega)).low ⟨w.heap.size, 1, none⟩ b (by show w.heap.size < w.heap.size + 2; omega)).low ⟨w.heap.size, 2, none⟩ e (by show w.heap.size < w.heap.size + 2; omega)
        exact ⟨(L.lv hf).2.2, hf, h1, h16, by omega⟩
      clear M hcap hLV HR
      go_wp2
      have s0 := HRs.out.cell (i := 0) (by omega)
      have s1 := HRs.out.cell (i := 1) (by omega)
      have s2 := HRs.out.cell (i := 2) (by omega)
      simp at s0 s1 s2
      refine bodyPost_ret (v := .agg #[.int .i64 l.length, .int .i64 k, .slice A9 k c9]) (by simp [results, Tryz.results32, go_sem, s0, s1, s2]) rfl ⟨A9, c9, rfl, HC.out, HW9.out _ _ _, ?_⟩
      exact ((hold.setCell (by simp) _).setCell (by simp) _).setCell (by simp) _

end Go.Proofs.YtelapijdpcoekaaGreat

/- What stands ahead, as the reference tells it. -/
namespace Go.Proofs.YtelapijdpcoekaaGreat
open Go.RowKit

set_option maxHeartbeats 2000000 in
theorem aheadOf_any (A A2 : Option Addr) (c c2 : Nat) (l es : List Int) (w : World) (hr : IRow w w.heap.size A l) (hr2 : IRow w w.heap.size A2 es) (hn : l.length ≤ 17592186044416) (hm : es.length ≤ 17592186043904) :
    Calls Tryz.prog 33 #[.slice A l.length c, .slice A2 es.length c2] w (Ints w (En.aheadOf l es)) := by
  have HT := Lib.hid (aheadOf_take l es)
  have HLn := Lib.hid (aheadOf_len l es)
  have HE := Lib.hid (show En.aheadOf l (es.take es.length) = En.aheadOf l es from by rw [List.take_length])
  have H1 := Lib.hid (aheadAt_no l)
  have H2 := Lib.hid (aheadAt_zero l)
  have H3 := Lib.hid (aheadAt_succ l)
  have Hr : Row w w.heap.size A l.length (fun i => .int .i64 (l.getD i 0)) := hr
  have Hr2 : Row w w.heap.size A2 es.length (fun i => .int .i64 (es.getD i 0)) := hr2
  have R0 : Hid (∀ W : World, Below w.heap.size w W → ∀ i, i < l.length → ∃ b o, A = some ⟨b, o, none⟩ ∧ W.cell? ⟨b, o + i, none⟩ = some (.int .i64 (l.getD i 0))) := Lib.hid fun W h i hi => by
    obtain ⟨b, o, e, hb, hc⟩ := Hr (by omega)
    exact ⟨b, o, e, (h.cell (p := ⟨b, o + i, none⟩) hb).trans (hc i hi)⟩
  have R2 : Hid (∀ W : World, Below w.heap.size w W → ∀ i, i < es.length → ∃ b o, A2 = some ⟨b, o, none⟩ ∧ W.cell? ⟨b, o + i, none⟩ = some (.int .i64 (es.getD i 0))) := Lib.hid fun W h i hi => by
    obtain ⟨b, o, e, hb, hc⟩ := Hr2 (by omega)
    exact ⟨b, o, e, (h.cell (p := ⟨b, o + i, none⟩) hb).trans (hc i hi)⟩
  clear Hr Hr2 hr hr2
  generalize l.length = n at *
  generalize es.length = m at *
  go_enter Tryz.func33, Tryz.ntmps33
  go_wp2
  go_loopw [5, 10] (fun s5 s W => ∃ k : Nat, k ≤ m ∧ s = .int .i64 k ∧ OL w (En.aheadOf l (es.take k)) s5 W) (fun _ s _ => m - (intOf s).toNat)
  case atStart => exact ⟨0, Nat.zero_le _, rfl, by simpa [En.aheadOf] using OL.nil w w (Below.refl _ _)⟩
  case round =>
    obtain ⟨k, hk, rfl, J⟩ := hrel
    by_cases hlt : k < m
    · obtain ⟨b2, o2, rfl, hc2⟩ := R2.out wr J.old k hlt
      have HT1 := Lib.hid (HT.out k hlt)
      have hln := HLn.out k
      have hz : (k : Int) < (m : Int) := by omega
      generalize es.getD k 0 = e at *
      by_cases he : e < 0 ∨ (n : Int) ≤ e
      · have J2 : OL w (En.aheadOf l (es.take (k + 1))) u5 wr := by rw [HT1.out, H1.out e he]; simpa using J
        by_cases h0 : e = 0
        · subst h0
          have hn0 : n = 0 := by omega
          have hn1 : ¬ (0 : Int) < (n : Int) := by omega
          go_wp2
          go_roundw
          case rel => exact ⟨k + 1, by omega, by go_num, J2⟩
          case measure => simp [intOf]; omega
        · have h1 : (e == 0) = false := by simp [h0]
          by_cases h2 : 0 < e
          · have h3 : ¬ e < (n : Int) := by omega
            clear he
            go_wp2
            go_roundw
            case rel => exact ⟨k + 1, by omega, by go_num, J2⟩
            case measure => simp [intOf]; omega
          · clear he
            go_wp2
            go_roundw
            case rel => exact ⟨k + 1, by omega, by go_num, J2⟩
            case measure => simp [intOf]; omega
      · by_cases h0 : e = 0
        · subst h0
          have hn0 : (0 : Int) < (n : Int) := by omega
          have hv := H2.out (by omega)
          obtain ⟨b0, o0, rfl, hc0⟩ := R0.out wr J.old (n - 1) (by omega)
          generalize l.getD (n - 1) 0 = x at *
          rw [hv] at HT1
          obtain ⟨n', rfl⟩ : ∃ n', n = n' + 1 := ⟨n - 1, by omega⟩
          rw [Nat.add_sub_cancel] at *
          clear he hv
          have hmx : (En.aheadOf l (es.take k)).length + 1 ≤ maxLen := by unfold maxLen; omega
          have hsz := J.old.size
          have J1 := J.on ((Below.refl _ wr).alloc (Nat.le_refl _) (.cells #[.int .i64 x] 3))
          have HJ : Hid (∀ v' W', W'.ownsRow w.heap.size 3 1 v' ((En.aheadOf l (es.take k)).length + 1) ((En.aheadOf l (es.take k)).map (Value.int .i64) ++ [.int .i64 x]) → (wr.alloc (.cells #[.int .i64 x] 3)).grownBy W' u5.ownBlock → OL w (En.aheadOf l (es.take (k + 1))) v' W') := Lib.hid fun v' W' h1 h2 => by
            have := J1.app x h1 h2
            rw [HT1.out]; exact this
          generalize En.aheadOf l (es.take k) = L at *
          clear H1 H2 H3 HT1 J HT HE R0 R2
          go_wp2_with (at_builtin; refine wpList_app1 _ rfl _ _ 22 rfl w.heap.size 3 (.int .i64 0) 8 Tryz.underlying22 infoInt' rfl _ L.length (L.map (Value.int .i64)) rfl wr.heap.size (.int .i64 x) rfl J1.own (new1 _ _ _) (by simp) rfl hmx (by omega) (by simp; omega) ?_; intro v' w2 h2 h3 h4)
          have J3 := HJ.out v' w2 h2 h3
          go_roundw
          case rel => exact ⟨k + 1, by omega, by go_num, J3⟩
          case measure => simp [intOf]; omega
        · obtain ⟨p, rfl⟩ : ∃ p : Nat, e = (p : Int) + 1 := ⟨e.toNat - 1, by omega⟩
          have hv := H3.out p (by omega)
          obtain ⟨b0, o0, rfl, hc0⟩ := R0.out wr J.old p (by omega)
          generalize l.getD p 0 = x at *
          rw [hv] at HT1
          have z1 : (0 : Int) < (p : Int) + 1 := by omega
          have z2 : (p : Int) + 1 < (n : Int) := by omega
          have z3 : (p : Int) < (n : Int) := by omega
          clear he hv h0
          have hmx : (En.aheadOf l (es.take k)).length + 1 ≤ maxLen := by unfold maxLen; omega
          have hsz := J.old.size
          have J1 := J.on ((Below.refl _ wr).alloc (Nat.le_refl _) (.cells #[.int .i64 x] 3))
          have HJ : Hid (∀ v' W', W'.ownsRow w.heap.size 3 1 v' ((En.aheadOf l (es.take k)).length + 1) ((En.aheadOf l (es.take k)).map (Value.int .i64) ++ [.int .i64 x]) → (wr.alloc (.cells #[.int .i64 x] 3)).grownBy W' u5.ownBlock → OL w (En.aheadOf l (es.take (k + 1))) v' W') := Lib.hid fun v' W' h1 h2 => by
            have := J1.app x h1 h2
            rw [HT1.out]; exact this
          generalize En.aheadOf l (es.take k) = L at *
          clear H1 H2 H3 HT1 J HT HE R0 R2
          go_wp2_with (at_builtin; refine wpList_app1 _ rfl _ _ 22 rfl w.heap.size 3 (.int .i64 0) 8 Tryz.underlying22 infoInt' rfl _ L.length (L.map (Value.int .i64)) rfl wr.heap.size (.int .i64 x) rfl J1.own (new1 _ _ _) (by simp) rfl hmx (by omega) (by simp; omega) ?_; intro v' w2 h2 h3 h4)
          have J3 := HJ.out v' w2 h2 h3
          go_roundw
          case rel => exact ⟨k + 1, by omega, by go_num, J3⟩
          case measure => simp [intOf]; omega
    · have hkm : k = m := by omega
      subst hkm
      have HO := Lib.hid J.ints
      rw [HE.out] at HO
      go_wp2
      go_ret
      exact HO.out

end Go.Proofs.YtelapijdpcoekaaGreat

/- Is one end ahead of another, as the reference tells it. -/
namespace Go.Proofs.YtelapijdpcoekaaGreat
open Go.RowKit

/-- what two ends have in common, and how they part -/
structure Parts (f : Nat → Int) (n a b L : Nat) (r : Bool) : Prop where
  a2 : a + L ≤ n
  b2 : b + L ≤ n
  same : ∀ k, k < L → f (a + k) = f (b + k)
  both : a + L < n → b + L < n → f (a + L) ≠ f (b + L) ∧ r = decide (f (a + L) < f (b + L))
  left_ : a + L < n → ¬ b + L < n → r = false
  right_ : ¬ a + L < n → r = decide (b + L < n)

theorem parts_of (l : List Int) (a b : Nat) (ha : a ≤ l.length) (hb : b ≤ l.length) : Parts (fun k => l.getD k 0) l.length a b (En.lcp (l.drop a) (l.drop b)) (decide (En.cl (l.drop a) (l.drop b) < 0)) := by
  have hle := En.lcp_le (l.drop a) (l.drop b)
  have hget := En.lcp_get (l.drop a) (l.drop b)
  have hend := En.lcp_end (l.drop a) (l.drop b)
  have hcl := En.cl_of_lcp (l.drop a) (l.drop b)
  rw [hcl]
  clear hcl
  generalize En.lcp (l.drop a) (l.drop b) = L at *
  simp only [List.length_drop] at hle hend ⊢
  have g : ∀ c j, (l.drop c).getD j 0 = l.getD (c + j) 0 := fun c j => by simp
  simp only [g] at hget hend ⊢
  refine ⟨by omega, by omega, hget, fun h1 h2 => ⟨hend (by omega) (by omega), ?_⟩, fun h1 h2 => ?_, fun h1 => ?_⟩
  · rw [if_pos (by omega), if_pos (by omega)]
    by_cases h : l.getD (a + L) 0 < l.getD (b + L) 0
    · rw [if_pos h, decide_eq_true h]; rfl
    · rw [if_neg h, decide_eq_false h]; rfl
  · rw [if_pos (by omega), if_neg (by omega)]; rfl
  · rw [if_neg (by omega)]
    by_cases h : b + L < l.length
    · rw [if_pos (by omega)]; simp [h]
    · rw [if_neg (by omega)]; simp [h]

set_option maxHeartbeats 1000000 in
theorem refAhead_any (A : Option Addr) (c : Nat) (l : List Int) (a b : Nat) (w : World) (hr : IRow w w.heap.size A l) (hn : l.length ≤ 17592186044416) (ha : a ≤ l.length) (hb : b ≤ l.length) :
    Calls Tryz.prog 59 #[.slice A l.length c, .int .i64 a, .int .i64 b] w fun e w' => e = .returned (.bool (decide (En.cl (l.drop a) (l.drop b) < 0))) ∧ ∃ q, w' = w.drewN q := by
  obtain ⟨f, hf⟩ : ∃ f : Nat → Int, f = fun k => l.getD k 0 := ⟨_, rfl⟩
  have P := parts_of l a b ha hb
  have Hr : Row w w.heap.size A l.length (fun i => .int .i64 (f i)) := by rw [hf]; exact hr
  rw [← hf] at P
  clear hf hr
  generalize decide (En.cl (l.drop a) (l.drop b) < 0) = r at *
  generalize En.lcp (l.drop a) (l.drop b) = L at *
  generalize l.length = n at *
  obtain ⟨pa, pb, ps, p1, p2, p3⟩ := P
  have HS := Lib.hid ps
  have H1 := Lib.hid p1
  have H2 := Lib.hid p2
  have H3 := Lib.hid p3
  clear ps p1 p2 p3
  go_enter Tryz.func59, Tryz.ntmps59
  go_wp2
  go_loopw [1, 2] (fun s1 s2 W => ∃ j q : Nat, j ≤ L ∧ s1 = .int .i64 ((a + j : Nat) : Int) ∧ s2 = .int .i64 ((b + j : Nat) : Int) ∧ W = w.drewN q) (fun s1 _ _ => n - (intOf s1).toNat)
  case atStart => exact ⟨0, 0, Nat.zero_le _, rfl, rfl, rfl⟩
  case round =>
    obtain ⟨j, q, hj, rfl, rfl, rfl⟩ := hrel
    by_cases hlt : j < L
    · obtain ⟨x, o, rfl, hx, hc⟩ := Hr (by omega)
      have c1 : w.cell? ⟨x, o + (a + j), none⟩ = some (.int .i64 (f (a + j))) := hc (a + j) (by omega)
      have c2 : w.cell? ⟨x, o + (b + j), none⟩ = some (.int .i64 (f (b + j))) := hc (b + j) (by omega)
      have e1 : (f (a + j) != f (b + j)) = false := by simp [HS.out j hlt]
      have h1 : a + j < n := by omega
      have h2 : b + j < n := by omega
      have hgoal : ∃ j' : Nat, j' = j + 1 ∧ j' ≤ L ∧ a + j' = a + j + 1 ∧ b + j' = b + j + 1 := ⟨j + 1, rfl, by omega, by omega, by omega⟩
      have Hg := Lib.hid hgoal
      generalize hA1 : a + j = a1 at *
      generalize hB1 : b + j = b1 at *
      have z1 : (a1 : Int) < (n : Int) := by omega
      have z2 : (b1 : Int) < (n : Int) := by omega
      clear hc Hr hgoal hA1 hB1 HS H1 H2 H3
      generalize f a1 = fa at *
      generalize f b1 = fb at *
      go_wp2
      go_quiet (fail)
      go_wp2
      go_roundw
      case rel =>
        obtain ⟨j', _, h3, h4, h5⟩ := Hg.out
        exact ⟨j', _, h3, by rw [h4]; go_num, by rw [h5]; go_num, rfl⟩
      case measure => simp [intOf]; omega
    · have hjL : j = L := by omega
      subst hjL
      by_cases h1 : a + j < n
      · by_cases h2 : b + j < n
        · obtain ⟨x, o, rfl, hx, hc⟩ := Hr (by omega)
          have c1 : w.cell? ⟨x, o + (a + j), none⟩ = some (.int .i64 (f (a + j))) := hc (a + j) (by omega)
          have c2 : w.cell? ⟨x, o + (b + j), none⟩ = some (.int .i64 (f (b + j))) := hc (b + j) (by omega)
          obtain ⟨hne, hrr⟩ := H1.out h1 h2
          have e1 : (f (a + j) != f (b + j)) = true := by simp [hne]
          generalize a + j = a1 at *
          generalize b + j = b1 at *
          have z1 : (a1 : Int) < (n : Int) := by omega
          have z2 : (b1 : Int) < (n : Int) := by omega
          have HR := Lib.hid hrr
          clear hc Hr HS H1 H2 H3 hne hrr
          generalize f a1 = fa at *
          generalize f b1 = fb at *
          go_wp2
          go_quiet (fail)
          go_wp2
          go_quiet (fail)
          go_wp2
          go_ret
          exact ⟨by rw [HR.out]; rfl, _, by rw [World.drewN_drewN, World.drewN_drewN]⟩
        · have hrr := H2.out h1 h2
          subst hrr
          generalize a + j = a1 at *
          generalize b + j = b1 at *
          have z1 : (a1 : Int) < (n : Int) := by omega
          have z2 : ¬ (b1 : Int) < (n : Int) := by omega
          have z3 : ((a1 : Int) == (n : Int)) = false := by simp; omega
          clear Hr HS H1 H2 H3
          go_wp2
          go_ret
          exact ⟨rfl, _, rfl⟩
      · have hrr := H3.out h1
        have z3 : (((a + j : Nat) : Int) == (n : Int)) = true := by simp; omega
        have z1 : ¬ ((a + j : Nat) : Int) < (n : Int) := by omega
        by_cases h2 : b + j < n
        · have hr2 : r = true := by rw [hrr]; simp [h2]
          subst hr2
          generalize a + j = a1 at *
          generalize b + j = b1 at *
          have z2 : (b1 : Int) < (n : Int) := by omega
          clear Hr HS H1 H2 H3 hrr
          go_wp2
          go_ret
          exact ⟨rfl, _, rfl⟩
        · have hr2 : r = false := by rw [hrr]; simp [h2]
          subst hr2
          generalize a + j = a1 at *
          generalize b + j = b1 at *
          have z2 : ¬ (b1 : Int) < (n : Int) := by omega
          clear Hr HS H1 H2 H3 hrr
          go_wp2
          go_ret
          exact ⟨rfl, _, rfl⟩

end Go.Proofs.YtelapijdpcoekaaGreat

/- The ends as the reference puts them in order: one by one, each where it belongs. -/
namespace Go.Proofs.YtelapijdpcoekaaGreat
open Go.RowKit

/-- a list with one more number at a place -/
def ins {α : Type} (es : List α) (j : Nat) (a : α) : List α := es.take j ++ a :: es.drop j
theorem ins_perm {α : Type} (es : List α) (j : Nat) (a : α) : (ins es j a).Perm (a :: es) := by
  unfold ins
  have := List.perm_middle (a := a) (l₁ := es.take j) (l₂ := es.drop j)
  rwa [List.take_append_drop] at this
theorem ins_sorted {R : Nat → Nat → Prop} {es : List Nat} {j a : Nat} (hs : es.Pairwise R) (h1 : ∀ i, i < j → i < es.length → R (es.getD i 0) a) (h2 : ∀ i, j ≤ i → i < es.length → R a (es.getD i 0)) : (ins es j a).Pairwise R := by
  have hx : ∀ x ∈ es.take j, R x a := fun x hx => by
    obtain ⟨i, hi, rfl⟩ := List.mem_take_iff_getElem.1 hx
    have := h1 i (by omega) (by omega)
    rwa [List.getD_eq_getElem?_getD, List.getElem?_eq_getElem (by omega)] at this
  have hy : ∀ y ∈ es.drop j, R a y := fun y hy => by
    obtain ⟨i, hi, rfl⟩ := List.mem_drop_iff_getElem.1 hy
    have := h2 (j + i) (by omega) (by omega)
    rwa [List.getD_eq_getElem?_getD, List.getElem?_eq_getElem (by omega)] at this
  unfold ins
  have hall : (es.take j ++ es.drop j).Pairwise R := by rw [List.take_append_drop]; exact hs
  obtain ⟨p1, p2, p3⟩ := List.pairwise_append.1 hall
  refine List.pairwise_append.2 ⟨p1, List.pairwise_cons.2 ⟨hy, p2⟩, fun x hx' y hy' => ?_⟩
  rcases List.mem_cons.1 hy' with rfl | hy'
  · exact hx x hx'
  · exact p3 x hx' y hy'

/-- a list with a hole at a place -/
def Hole (E : List Int) (j : Nat) (X : List Int) : Prop := X.length = E.length + 1 ∧ (∀ i, i < j → X.getD i 0 = E.getD i 0) ∧ ∀ i, j ≤ i → i < E.length → X.getD (i + 1) 0 = E.getD i 0
theorem Hole.start (E : List Int) (x : Int) : Hole E E.length (E ++ [x]) := by
  refine ⟨by simp, fun i hi => getD_snoc_lt E x 0 i hi, fun i h1 h2 => by omega⟩
theorem getD_set (X : List Int) (j i : Nat) (x : Int) (hj : j < X.length) : (X.set j x).getD i 0 = if i = j then x else X.getD i 0 := by
  simp only [List.getD_eq_getElem?_getD, List.getElem?_set]
  by_cases h : j = i
  · subst h; simp [hj]
  · rw [if_neg h, if_neg (fun e => h e.symm)]
theorem Hole.step {E : List Int} {j : Nat} {X : List Int} (h : Hole E (j + 1) X) (hj : j < E.length) : Hole E j (X.set (j + 1) (X.getD j 0)) := by
  obtain ⟨h0, h1, h2⟩ := h
  refine ⟨by simpa using h0, fun i hi => ?_, fun i hi hl => ?_⟩
  · rw [getD_set _ _ _ _ (by omega), if_neg (by omega)]; exact h1 i (by omega)
  · rw [getD_set _ _ _ _ (by omega)]
    by_cases e : i = j
    · subst e; rw [if_pos rfl]; exact h1 i (by omega)
    · rw [if_neg (by omega)]; exact h2 i (by omega) hl
theorem Hole.fill {E : List Int} {j : Nat} {X : List Int} (h : Hole E j X) (hj : j ≤ E.length) (x : Int) : X.set j x = ins E j x := by
  obtain ⟨h0, h1, h2⟩ := h
  unfold ins
  have hl : (E.take j ++ x :: E.drop j).length = E.length + 1 := by simp; omega
  apply List.ext_getElem
  · rw [List.length_set, h0, hl]
  · intro i hi hi'
    rw [List.length_set] at hi
    have e1 : (X.set j x)[i] = (X.set j x).getD i 0 := by rw [List.getD_eq_getElem?_getD, List.getElem?_eq_getElem (by rw [List.length_set]; exact hi)]; rfl
    rw [e1, getD_set _ _ _ _ (by omega)]
    by_cases a : i < j
    · rw [if_neg (by omega), h1 i a, List.getElem_append_left (by simp; omega)]
      simp [show i < E.length by omega]
    · rw [List.getElem_append_right (by simp; omega)]
      by_cases b : i = j
      · subst b; rw [if_pos rfl]; simp [hj]
      · rw [if_neg b]
        have := h2 (i - 1) (by omega) (by omega)
        rw [show i - 1 + 1 = i from by omega] at this
        rw [this]
        have e : i - (E.take j).length = (i - 1 - j) + 1 := by simp; omega
        simp only [e, List.getElem_cons_succ, List.getElem_drop]
        rw [List.getD_eq_getElem?_getD, List.getElem?_eq_getElem (by omega)]
        simp only [Option.getD_some]
        congr 1
        omega

/-- places as numbers -/
abbrev num (es : List Nat) : List Int := es.map fun (i : Nat) => (i : Int)
theorem num_get (es : List Nat) (i : Nat) : (num es).getD i 0 = ((es.getD i 0 : Nat) : Int) := by
  by_cases h : i < es.length
  · simp [h]
  · simp [h]
theorem num_ins (es : List Nat) (j a : Nat) : num (ins es j a) = ins (num es) j (a : Int) := by simp [num, ins]

/-- the ends of the first k places, by order -/
def EndsUp (l : List Int) (k : Nat) (es : List Nat) : Prop := es.Perm (List.range k) ∧ es.Pairwise (En.elt l)
theorem EndsUp.length {l : List Int} {k : Nat} {es : List Nat} (h : EndsUp l k es) : es.length = k := by have := h.1.length_eq; simpa using this
theorem EndsUp.ins {l : List Int} {k : Nat} {es : List Nat} (h : EndsUp l k es) {j : Nat} (hk : k < l.length) (hj : j ≤ k) (h1 : 0 < j → ¬ En.elt l k (es.getD (j - 1) 0)) (h2 : ∀ i, j ≤ i → i < k → En.elt l k (es.getD i 0)) : EndsUp l (k + 1) (ins es j k) := by
  have hl := h.length
  refine ⟨(ins_perm es j k).trans ?_, ins_sorted h.2 (fun i hi hie => ?_) (fun i hi hie => h2 i hi (by omega))⟩
  · rw [List.range_succ]
    exact (List.Perm.cons k h.1).trans (List.perm_append_singleton k (List.range k)).symm
  · have hlt : ∀ i, i < k → es.getD i 0 < k := fun i hi => perm_lt h.1 hi
    have hj1 := En.elt_total (l := l) (a := es.getD (j - 1) 0) (b := k) (by have := hlt (j - 1) (by omega); omega) hk (by have := hlt (j - 1) (by omega); omega)
    have hlast : En.elt l (es.getD (j - 1) 0) k := hj1.resolve_right (h1 (by omega))
    by_cases e : i = j - 1
    · rw [e]; exact hlast
    · have hp : En.elt l (es.getD i 0) (es.getD (j - 1) 0) := by
        simp only [List.getD_eq_getElem?_getD, List.getElem?_eq_getElem (show i < es.length by omega), List.getElem?_eq_getElem (show j - 1 < es.length by omega), Option.getD_some]
        exact List.pairwise_iff_getElem.1 h.2 i (j - 1) (by omega) (by omega) (by omega)
      exact En.cl_trans hp hlast

/-- the inner loop: a row of the call's own with a hole -/
structure EI (w : World) (l : List Int) (k g cap : Nat) (es : List Nat) (j : Nat) (X : List Int) (W : World) : Prop where
  own : W.ownsRow w.heap.size 3 1 (.slice (some ⟨g, 0, none⟩) (k + 1) cap) (k + 1) (X.map (Value.int .i64))
  old : Below w.heap.size w W
  hole : Hole (num es) j X
  above : ∀ i, j ≤ i → i < k → En.elt l k (es.getD i 0)
theorem EI.cell {w : World} {l : List Int} {k g cap : Nat} {es : List Nat} {j : Nat} {X : List Int} {W : World} (h : EI w l k g cap es j X W) {i : Nat} (hi : i < k + 1) : W.cell? ⟨g, i, none⟩ = some (.int .i64 (X.getD i 0)) := by
  rw [h.own.cellAt i (by omega)]
  have : X.length = k + 1 := by have := h.own.1; simpa using this
  simp [show i < X.length by omega]
theorem EI.drewN {w : World} {l : List Int} {k g cap : Nat} {es : List Nat} {j : Nat} {X : List Int} {W : World} (h : EI w l k g cap es j X W) (q : Nat) : EI w l k g cap es j X (W.drewN q) := ⟨h.own, Below.drewN h.old q, h.hole, h.above⟩
theorem EI.step {w : World} {l : List Int} {k g cap : Nat} {es : List Nat} {j : Nat} {X : List Int} {W : World} (h : EI w l k g cap es (j + 1) X W) (hl : es.length = k) (hj : j < k) (he : En.elt l k (es.getD j 0)) :
    EI w l k g cap es j (X.set (j + 1) (X.getD j 0)) (W.setCell ⟨g, j + 1, none⟩ (.int .i64 (X.getD j 0))) := by
  obtain ⟨s1, s2⟩ := h.own.stored (j + 1) (.int .i64 (X.getD j 0))
  refine ⟨by rwa [List.map_set], h.old.grown s2 h.old.size (fun i hi => by injection hi with hi; subst hi; exact (h.own.lt _ rfl).1), h.hole.step (by simp; omega), fun i h1 h2 => ?_⟩
  by_cases e : i = j
  · rw [e]; exact he
  · exact h.above i (by omega) h2
theorem EI.fill {w : World} {l : List Int} {k g cap : Nat} {es : List Nat} {j : Nat} {X : List Int} {W : World} (h : EI w l k g cap es j X W) (hl : es.length = k) (hj : j ≤ k) :
    OL w (num (ins es j k)) (.slice (some ⟨g, 0, none⟩) (k + 1) cap) (W.setCell ⟨g, j, none⟩ (.int .i64 (k : Int))) := by
  obtain ⟨s1, s2⟩ := h.own.stored j (.int .i64 (k : Int))
  have e : (X.map (Value.int .i64)).set j (.int .i64 (k : Int)) = (num (ins es j k)).map (Value.int .i64) := by
    rw [← List.map_set, h.hole.fill (by simp; omega) (k : Int), num_ins]
  rw [e] at s1
  have el : (num (ins es j k)).length = k + 1 := by simp [num, ins]; omega
  exact ⟨by rw [el]; exact s1, h.old.grown s2 h.old.size (fun i hi => by injection hi with hi; subst hi; exact (h.own.lt _ rfl).1)⟩

/-- a call that hands back numbers in a row of its own -/
def OwnL (w : World) (L : List Int) (e : Ending) (w' : World) : Prop := ∃ v, e = .returned v ∧ OL w L v w'

set_option maxHeartbeats 2000000 in
theorem endsOf_own (A : Option Addr) (c : Nat) (l : List Int) (w : World) (hr : IRow w w.heap.size A l) (hn : l.length ≤ 17592186043904) :
    Calls Tryz.prog 29 #[.slice A l.length c] w (OwnL w (endsI l)) := by
  have HA := Lib.hid (fun (W : World) (hb : Below w.heap.size w W) a b ha hb' => refAhead_any A c l a b W (hr.on hb) (by omega) ha hb')
  have HE : Hid (∀ es, EndsUp l l.length es → num es = endsI l) := Lib.hid fun es h => by
    unfold endsI; rw [En.endsOf_eq h]
  have HF : Hid (∀ (k : Nat) (es : List Nat) (j : Nat), EndsUp l k es → k < l.length → j ≤ k → (0 < j → ¬ En.elt l k (es.getD (j - 1) 0)) → (∀ i, j ≤ i → i < k → En.elt l k (es.getD i 0)) → EndsUp l (k + 1) (ins es j k)) := Lib.hid fun k es j h a b c d => h.ins a b c d
  clear hr
  generalize hnn : l.length = n at *
  have Hnn := Lib.hid hnn
  clear hnn
  go_enter Tryz.func29, Tryz.ntmps29
  go_wp2
  go_loopw [3, 8] (fun s3 s W => ∃ (k : Nat) (es : List Nat), k ≤ n ∧ s = .int .i64 k ∧ Hid (EndsUp l k es) ∧ OL w (num es) s3 W) (fun _ s _ => n - (intOf s).toNat)
  case atStart => exact ⟨0, [], Nat.zero_le _, rfl, (⟨by simp, List.Pairwise.nil⟩ : EndsUp l 0 []), OL.nil w w (Below.refl _ _)⟩
  case round =>
    obtain ⟨k, es, hk, rfl, I, J⟩ := hrel
    have hel : es.length = k := I.out.length
    by_cases hlt : k < n
    · obtain ⟨A3, c3, rfl, _⟩ := own_slice J.own
      have hln : (num es).length = k := by simp [hel]
      have hmx : (num es).length + 1 ≤ maxLen := by unfold maxLen; omega
      have hsz := J.old.size
      have J1 := J.on ((Below.refl _ wr).alloc (Nat.le_refl _) (.cells #[.int .i64 (k : Int)] 3))
      have HJ : Hid (∀ v' W', W'.ownsRow w.heap.size 3 1 v' (k + 1) ((num es).map (Value.int .i64) ++ [.int .i64 (k : Int)]) → (wr.alloc (.cells #[.int .i64 (k : Int)] 3)).grownBy W' (Value.slice A3 k c3).ownBlock →
          ∃ g cap, v' = .slice (some ⟨g, 0, none⟩) (k + 1) cap ∧ EI w l k g cap es k (num es ++ [(k : Int)]) W') := Lib.hid fun v' W' h1 h2 => by
        have K := J1.app (k : Int) (by rw [hln]; exact h1) (by rw [hln]; exact h2)
        obtain ⟨g, cap, rfl, _, _⟩ := h1.form (by omega)
        refine ⟨g, cap, rfl, ⟨?_, K.old, ?_, fun i h1 h2 => by omega⟩⟩
        · have := K.own
          rw [List.length_append, List.length_singleton, hln] at this
          exact this
        · have := Hole.start (num es) (k : Int)
          rwa [hln] at this
      have own1 := J1.own
      rw [hln] at own1 hmx ⊢
      have hzk : (k : Int) < (n : Int) := by omega
      go_wp2_with (at_builtin; refine wpList_app1 _ rfl _ _ 22 rfl w.heap.size 3 (.int .i64 0) 8 Tryz.underlying22 infoInt' rfl _ k ((num es).map (Value.int .i64)) rfl wr.heap.size (.int .i64 (k : Int)) rfl own1 (new1 _ _ _) (by simp) rfl hmx (by omega) (by simp; omega) ?_; intro v' w2 h2 h3 h4; obtain ⟨g, cap, rfl, K⟩ := HJ.out v' w2 h2 h3)
      clear J1 HJ own1 J h2 h3 h4
      go_loopw [5] (fun s W => ∃ (j : Nat) (X : List Int), j ≤ k ∧ s = .int .i64 j ∧ Hid (EI w l k g cap es j X W)) (fun s _ => (intOf s).toNat)
      case atStart => exact ⟨k, _, Nat.le_refl _, rfl, Lib.hid K⟩
      case round =>
        obtain ⟨j, X, hj, rfl, M⟩ := hrel
        clear K
        have HFill : Hid (∀ q, ((0 < j → ¬ En.elt l k (es.getD (j - 1) 0)) → EndsUp l (k + 1) (ins es j k)) ∧ OL w (num (ins es j k)) (.slice (some ⟨g, 0, none⟩) (k + 1) cap) ((wr.drewN q).setCell ⟨g, j, none⟩ (.int .i64 (k : Int)))) := Lib.hid fun q =>
          ⟨fun h => HF.out k es j I.out hlt hj h M.out.above, (M.out.drewN q).fill hel hj⟩
        have cj : ∀ q, (wr.drewN q).cell? ⟨g, j, none⟩ = some (.int .i64 (X.getD j 0)) := fun q => M.out.cell (i := j) (by omega)
        have fj : ∀ q, (wr.drewN q).frozen? ⟨g, j, none⟩ = false := fun q => M.out.own.frozenAt j
        have Hcj := Lib.hid cj
        have Hfj := Lib.hid fj
        clear cj fj
        have hzj : (j : Int) < (k : Int) + 1 := by omega
        by_cases hj0 : j = 0
        · obtain ⟨F1, F2⟩ := HFill.out 0
          have F1 := Lib.hid (F1 (fun h => absurd h (by omega)))
          have c0 : wr.cell? ⟨g, j, none⟩ = some (.int .i64 (X.getD j 0)) := Hcj.out 0
          have f0 : wr.frozen? ⟨g, j, none⟩ = false := Hfj.out 0
          have F2' : OL w (num (ins es j k)) (.slice (some ⟨g, 0, none⟩) (k + 1) cap) (wr.setCell ⟨g, j, none⟩ (.int .i64 (k : Int))) := F2
          generalize X.getD j 0 = x at *
          have hz0 : ¬ (0 : Int) < (j : Int) := by omega
          clear M HFill Hcj Hfj F2 hj0
          go_wp2
          go_roundw
          case rel => exact ⟨k + 1, ins es j k, by omega, by go_num, F1, F2'⟩
          case measure => simp [intOf]; omega
        · obtain ⟨t, rfl⟩ : ∃ t, j = t + 1 := ⟨j - 1, by omega⟩
          have ct : wr.cell? ⟨g, t, none⟩ = some (.int .i64 (X.getD t 0)) := M.out.cell (i := t) (by omega)
          have hXt : X.getD t 0 = ((es.getD t 0 : Nat) : Int) := by rw [M.out.hole.2.1 t (by omega), num_get]
          have hlt2 : es.getD t 0 < k := perm_lt I.out.1 (by omega)
          have HC := Lib.hid (HA.out wr M.out.old k (es.getD t 0) (by omega) (by omega))
          have HStep := Lib.hid (fun (q : Nat) (he : En.elt l k (es.getD t 0)) => (M.out.drewN q).step hel (by omega) he)
          rw [hXt] at ct HStep
          rw [Nat.add_sub_cancel] at HFill
          clear M
          unfold En.elt at HStep HFill
          generalize En.cl (l.drop k) (l.drop (es.getD t 0)) = v at *
          generalize es.getD t 0 = p at *
          generalize X.getD (t + 1) 0 = x at *
          have hzt : (t : Int) < (k : Int) + 1 := by omega
          by_cases hv : v < 0
          · have hd : decide (v < 0) = true := by simp [hv]
            rw [hd] at HC
            go_wp2_with fail
            with_reducible refine HC.out.mono ?_
            rintro e w5 ⟨rfl, q, rfl⟩
            have S1 := Lib.hid (HStep.out q hv)
            have c1 := Hcj.out q
            have f1 := Hfj.out q
            clear HC HStep Hcj Hfj HFill
            go_wp2
            go_roundw
            case rel => exact ⟨t, _, by omega, by go_num, S1⟩
            case measure => simp [intOf]
          · have hd : decide (v < 0) = false := by simp [hv]
            rw [hd] at HC
            go_wp2_with fail
            with_reducible refine HC.out.mono ?_
            rintro e w5 ⟨rfl, q, rfl⟩
            obtain ⟨F1, F2⟩ := HFill.out q
            have F1 := Lib.hid (F1 (fun _ => hv))
            have c1 := Hcj.out q
            have f1 := Hfj.out q
            clear HC HStep Hcj Hfj HFill
            go_wp2
            go_roundw
            case rel => exact ⟨k + 1, ins es (t + 1) k, by omega, by go_num, F1, F2⟩
            case measure => simp [intOf]; omega
    · have hkn : k = n := by omega
      subst hkn
      have HO := Lib.hid J
      rw [HE.out es I.out] at HO
      go_wp2
      go_ret
      exact ⟨_, rfl, HO.out⟩

theorem endsOf_any (A : Option Addr) (c : Nat) (l : List Int) (w : World) (hr : IRow w w.heap.size A l) (hn : l.length ≤ 17592186043904) :
    Calls Tryz.prog 29 #[.slice A l.length c] w (Ints w (endsI l)) :=
  (endsOf_own A c l w hr hn).mono fun _ _ ⟨_, he, hO⟩ => he ▸ hO.ints

end Go.Proofs.YtelapijdpcoekaaGreat
