/- The reference's WaveOf: the same as Make. -/
import Derived.Test.YtgnakccbkglfpaaRc
import Derived.Test.YtgnakccbkglfpaaWu
namespace Go.Proofs.Ytgnakccbkglfpaa
open Go.RowKit
attribute [local irreducible] Bt.pop Bt.popF

/-- the memory of WaveOf -/
structure MR (w : World) (l : List Nat) (d k : Nat) (v : Value) (xs : List Value) (W : World) : Prop where
  res : W.rowIs w.heap.size 45 3 (wvF 0 0 (.slice none 0 0))
  box : W.rowIs (w.heap.size + 1) 45 3 (wvF l.length d v)
  lv : LvO (w.heap.size + 2) l d k v xs W
  old : Below w.heap.size w W
section
variable {w : World} {l : List Nat} {d k : Nat} {v : Value} {xs : List Value} {W W' : World}
theorem MR.on (h : MR w l d k v xs W) (hb : Below W.heap.size W W') : MR w l d k v xs W' :=
  ⟨h.res.of_block (hb.block _ h.res.lt), h.box.of_block (hb.block _ h.box.lt), h.lv.on hb, h.old.trans (hb.mono h.old.size)⟩
theorem MR.c2 (h : MR w l d k v xs W) : W.cell? ⟨w.heap.size + 1, 2, none⟩ = some v := h.box.cell (i := 2) (by omega)
theorem MR.far (h : MR w l d k v xs W) (hg : W.grownBy W' v.ownBlock) : W'.rowIs (w.heap.size + 1) 45 3 (wvF l.length d v) :=
  h.box.of_block (hg.block _ h.box.lt (fun e => by have := (h.lv.own.lt _ e.symm).1; omega))
theorem MR.app (h : MR w l d k v xs W) {v' : Value} {xs' : List Value} (hg : W.grownBy W' v.ownBlock) (hlv : LvO (w.heap.size + 2) l d (k + 1) v' xs' W') : MR w l d (k + 1) v' xs' (W'.setCell ⟨w.heap.size + 1, 2, none⟩ v') := by
  have hres := h.res.of_block (hg.block _ h.res.lt (fun e => by have := (h.lv.own.lt _ e.symm).1; omega))
  have hold := h.old.grown hg h.old.size (fun g hgo => by have := (h.lv.own.lt g hgo).1; omega)
  refine ⟨hres.setOther (by simp) _, ((h.far hg).set 2 v').congr (fun i hi => ?_), hlv.low _ _ (by simp), hold.setCell (by simp) _⟩
  match i, hi with
  | 0, _ => rfl
  | 1, _ => rfl
  | 2, _ => rfl
end

/-- the bits of a level, so far -/
def preB (l : List Nat) (s p m : Nat) : List Bool := (Wv.lev (s + 1) p l ++ Wv.grp (s + 1) p (l.take m)).map (Wv.bit s)
theorem preB_zero (l : List Nat) (s : Nat) : preB l s 0 0 = [] := by simp [preB, Wv.lev, Wv.grp]
theorem preB_yes (l : List Nat) (s p m : Nat) (hm : m < l.length) (h : l.getD m 0 / 2 ^ (s + 1) = p) : preB l s p (m + 1) = preB l s p m ++ [Wv.bit s (l.getD m 0)] := by
  have e : l.take (m + 1) = l.take m ++ [l.getD m 0] := by
    rw [List.take_succ_eq_append_getElem hm, List.getD_eq_getElem?_getD, List.getElem?_eq_getElem hm]; rfl
  have e2 : Wv.grp (s + 1) p [l.getD m 0] = [l.getD m 0] := by unfold Wv.grp; rw [List.filter_cons, if_pos (by rw [h]; simp)]; rfl
  unfold preB
  rw [e, Wv.grp_append, e2, ← List.append_assoc, List.map_append]; rfl
theorem preB_no (l : List Nat) (s p m : Nat) (hm : m < l.length) (h : ¬ l.getD m 0 / 2 ^ (s + 1) = p) : preB l s p (m + 1) = preB l s p m := by
  have e : l.take (m + 1) = l.take m ++ [l.getD m 0] := by
    rw [List.take_succ_eq_append_getElem hm, List.getD_eq_getElem?_getD, List.getElem?_eq_getElem hm]; rfl
  have e2 : Wv.grp (s + 1) p [l.getD m 0] = [] := by unfold Wv.grp; rw [List.filter_cons, if_neg (by simpa using h)]; rfl
  unfold preB
  rw [e, Wv.grp_append, e2, List.append_nil]
theorem preB_next (l : List Nat) (s p : Nat) : preB l s p l.length = preB l s (p + 1) 0 := by
  unfold preB
  rw [List.take_length, List.take_zero, Wv.lev_succ]
  simp [Wv.grp]
theorem preB_end (l : List Nat) (s p : Nat) : preB l s p 0 = Wv.lbits s p l := by
  unfold preB Wv.lbits
  simp [Wv.grp]
theorem preB_len (l : List Nat) (s k p m : Nat) (hf : ∀ n ∈ l, n < 2 ^ (s + 1 + k)) (hp : p < 2 ^ k) : (preB l s p m).length ≤ l.length := by
  unfold preB
  rw [List.length_map, List.length_append]
  have h1 : Wv.st (s + 1) p l + Wv.cnt (s + 1) p l ≤ l.length := by rw [← Wv.st_all (s + 1) k l hf]; exact Wv.st_mono _ _ _ _ hp
  have h2 := Wv.cnt_take_le (s + 1) p m l
  unfold Wv.st Wv.cnt at h1
  unfold Wv.cnt at h2
  omega

theorem bit_rem (x s : Nat) (y : Bool) (h : Wv.bit s x = y) : ((x : Int) / 2 ^ s % 2 == 1) = y ∧ (((x : Int) / 2 ^ s).tmod 2 == 1) = y := by
  have e : (x : Int) / 2 ^ s = ((x / 2 ^ s : Nat) : Int) := by simp
  have e2 : ((x : Int) / 2 ^ s % 2 == 1) = y := by
    rw [e, ← h]
    unfold Wv.bit
    rw [Bool.eq_iff_iff]; simp only [beq_iff_eq]; omega
  refine ⟨e2, ?_⟩
  rw [Int.tmod_eq_emod_of_nonneg (by rw [e]; exact Int.natCast_nonneg _)]
  exact e2
theorem div_eq_cast (x s p : Nat) : ((x : Int) / 2 ^ s == (p : Int)) = decide (x / 2 ^ s = p) := by
  rw [show (x : Int) / 2 ^ s = ((x / 2 ^ s : Nat) : Int) from by simp, Bool.eq_iff_iff]
  simp only [beq_iff_eq, decide_eq_true_eq]; omega

set_option maxHeartbeats 4000000 in
theorem waveOf_any (A : Option Addr) (c : Nat) (l : List Nat) (d : Nat) (w : World) (hr : NRow w w.heap.size A l) (h1 : 1 ≤ d) (h16 : d ≤ 16) (hf : ∀ n ∈ l, n < 2 ^ d) (hs : l.length ≤ 17592186043904) :
    Calls Try.prog 39 #[.slice A l.length c, .int .i64 d] w fun e w' => ∃ A' c', e = .returned (.agg #[.int .i64 l.length, .int .i64 d, .slice A' d c']) ∧ d ≤ c' ∧ Wave w' A' d l ∧ Below w.heap.size w w' := by
  have HR : Hid (∀ W, Below w.heap.size w W → ∀ k, k < l.length → ∃ b o, A = some ⟨b, o, none⟩ ∧ W.cell? ⟨b, o + k, none⟩ = some (.int .i64 ((l.getD k 0 : Nat) : Int)) ∧ l.getD k 0 < 65536) := Lib.hid fun W h k hk => by
    obtain ⟨b, o, e, hb, hc⟩ := hr (by omega)
    refine ⟨b, o, e, (h.cell (p := ⟨b, o + k, none⟩) hb).trans (hc k hk), ?_⟩
    have h3 := hf (l.getD k 0) (by rw [List.getD_eq_getElem?_getD, List.getElem?_eq_getElem hk]; exact List.getElem_mem hk)
    have h4 : 2 ^ d ≤ 2 ^ 16 := Nat.pow_le_pow_right (by omega) h16
    omega
  obtain ⟨V, hV⟩ : ∃ V, V = (w.alloc (.cells #[.int .i64 0, .int .i64 0, .slice none 0 0] 45)).alloc (.cells #[.int .i64 l.length, .int .i64 d, .slice none 0 0] 45) := ⟨_, rfl⟩
  have M0 : MR w l d 0 (.slice none 0 0) [] V := by
    have e1 := wvF_alloc w 0 0 (.slice none 0 0)
    have e2 := wvF_alloc (w.alloc (.cells #[.int .i64 0, .int .i64 0, .slice none 0 0] 45)) l.length d (.slice none 0 0)
    rw [World.size_alloc] at e2
    rw [hV]
    exact ⟨e1.alloc _, e2, LvO.nil _ _ _ _, ((Below.refl _ _).alloc (Nat.le_refl _) _).alloc (by simp) _⟩
  have HV := Lib.hid hV
  clear hV hr
  go_enter Try.func39, Try.ntmps39
  go_upto_region 2 with fail
  rw [← HV.out]
  clear HV
  go_wp2
  go_loopw [16] (fun t W => ∃ (k : Nat) (v : Value) (xs : List Value), k ≤ d ∧ t = .int .i64 k ∧ MR w l d k v xs W) (fun t _ => d - (intOf t).toNat)
  case atStart => exact ⟨0, _, _, Nat.zero_le _, rfl, M0⟩
  case round =>
    clear M0
    obtain ⟨k, v, xs, hk, rfl, M⟩ := hrel
    by_cases hlt : k < d
    · have hlz : (k : Int) < (d : Int) := by omega
      have hp2 : wrap64 ((2 : Int) ^ k) = ((2 ^ k : Nat) : Int) := (wrap_pow k (by omega)).trans (by simp)
      have hp3 : 2 ^ k ≤ 2 ^ 16 := Nat.pow_le_pow_right (by omega) (by omega)
      have hf' : ∀ n ∈ l, n < 2 ^ (d - 1 - k + 1 + k) := by rw [show d - 1 - k + 1 + k = d from by omega]; exact hf
      have Q1 : Hid (∀ p m, m < l.length → l.getD m 0 / 2 ^ (d - k) = p → preB l (d - 1 - k) p (m + 1) = preB l (d - 1 - k) p m ++ [Wv.bit (d - 1 - k) (l.getD m 0)]) := Lib.hid fun p m hm h => preB_yes l _ p m hm (by rw [show d - 1 - k + 1 = d - k from by omega]; exact h)
      have Q2 : Hid (∀ p m, m < l.length → ¬ l.getD m 0 / 2 ^ (d - k) = p → preB l (d - 1 - k) p (m + 1) = preB l (d - 1 - k) p m) := Lib.hid fun p m hm h => preB_no l _ p m hm (by rw [show d - 1 - k + 1 = d - k from by omega]; exact h)
      have Q3 := Lib.hid (preB_next l (d - 1 - k))
      have Q4 := Lib.hid (preB_end l (d - 1 - k) (2 ^ k))
      have Q5 := Lib.hid (fun p m hp => preB_len l (d - 1 - k) k p m hf' hp)
      have Q0 := Lib.hid (preB_zero l (d - 1 - k))
      generalize preB l (d - 1 - k) = F at *
      generalize hP : 2 ^ k = P at *
      have HP := Lib.hid hP
      clear hP hf'
      generalize wr = V0 at *
      go_wp2
      go_loopw [7, 22] (fun s7 t W => ∃ p : Nat, p ≤ P ∧ t = .int .i64 p ∧ OB V0 (F p 0) s7 W) (fun _ t _ => P - (intOf t).toNat)
      case atStart => exact ⟨0, Nat.zero_le _, rfl, by rw [Q0.out]; exact OB.nil V0 V0 (Below.refl _ _)⟩
      case round =>
        obtain ⟨p, hp, rfl, I⟩ := hrel
        by_cases hlt2 : p < P
        · have hlz2 : (p : Int) < (P : Int) := by omega
          generalize wr = V1 at *
          go_wp2
          go_loopw [7, 27] (fun s7 t W => ∃ m : Nat, m ≤ l.length ∧ t = .int .i64 m ∧ OB V0 (F p m) s7 W) (fun _ t _ => l.length - (intOf t).toNat)
          case atStart => exact ⟨0, Nat.zero_le _, rfl, I⟩
          case round =>
            clear I
            obtain ⟨m, hm, rfl, I⟩ := hrel
            by_cases hlt3 : m < l.length
            · obtain ⟨b, o, rfl, hc1, hx⟩ := HR.out wr (M.old.trans (I.old.mono M.old.size)) m hlt3
              have hlz3 : (m : Int) < (l.length : Int) := by omega
              have E1 := Lib.hid (Q1.out p m hlt3)
              have E2 := Lib.hid (Q2.out p m hlt3)
              have n1 := Q5.out p m hlt2
              have v1 : ((d : Int) - (k : Int)).toNat = d - k := by omega
              have v2 : ((d : Int) - (k : Int) - 1).toNat = d - 1 - k := by omega
              clear Q0 Q1 Q2 Q3 Q4 Q5 HR
              generalize l.getD m 0 = x at *
              by_cases hq : x / 2 ^ (d - k) = p
              · have t1 : ((x : Int) / 2 ^ (d - k) == (p : Int)) = true := by rw [div_eq_cast]; simp [hq]
                have E3 := Lib.hid (E1.out hq)
                clear hq E1 E2
                cases hy : Wv.bit (d - 1 - k) x
                · obtain ⟨t4, t5⟩ := bit_rem x (d - 1 - k) false hy
                  rw [hy] at E3
                  clear hy
                  have HJ : Hid (∀ v' W', W'.ownsRow V0.heap.size 4 1 v' ((F p m).length + 1) ((F p m).map Value.bool ++ [.bool false]) → (wr.alloc (.cells #[.bool false] 4)).grownBy W' u7.ownBlock → OB V0 (F p (m + 1)) v' W') := Lib.hid fun v' W' g1 g2 => by
                    have := (I.on ((Below.refl _ wr).alloc (Nat.le_refl _) (.cells #[.bool false] 4))).app false g1 g2
                    rw [E3.out]; exact this
                  have J1 := I.on ((Below.refl _ wr).alloc (Nat.le_refl _) (.cells #[.bool false] 4))
                  have hsz := I.old.size
                  have hmx : (F p m).length + 1 ≤ maxLen := by unfold maxLen; omega
                  clear E3 I hp2 hp3
                  go_wp2_with (at_builtin; refine wpList_app1 _ rfl _ _ 22 rfl V0.heap.size 4 (.bool false) 1 Try.underlying22 infoBool rfl _ (F p m).length ((F p m).map Value.bool) rfl wr.heap.size (.bool false) rfl J1.own (new1 _ _ _) (by simp) rfl hmx (by omega) (by simp; omega) ?_; intro v' w2 g2 g3 g4)
                  have J3 := HJ.out v' w2 g2 g3
                  go_roundw
                  case rel => exact ⟨m + 1, by omega, by go_num, J3⟩
                  case measure => simp [intOf]; omega
                · obtain ⟨t4, t5⟩ := bit_rem x (d - 1 - k) true hy
                  rw [hy] at E3
                  clear hy
                  have HJ : Hid (∀ v' W', W'.ownsRow V0.heap.size 4 1 v' ((F p m).length + 1) ((F p m).map Value.bool ++ [.bool true]) → (wr.alloc (.cells #[.bool true] 4)).grownBy W' u7.ownBlock → OB V0 (F p (m + 1)) v' W') := Lib.hid fun v' W' g1 g2 => by
                    have := (I.on ((Below.refl _ wr).alloc (Nat.le_refl _) (.cells #[.bool true] 4))).app true g1 g2
                    rw [E3.out]; exact this
                  have J1 := I.on ((Below.refl _ wr).alloc (Nat.le_refl _) (.cells #[.bool true] 4))
                  have hsz := I.old.size
                  have hmx : (F p m).length + 1 ≤ maxLen := by unfold maxLen; omega
                  clear E3 I hp2 hp3
                  go_wp2_with (at_builtin; refine wpList_app1 _ rfl _ _ 22 rfl V0.heap.size 4 (.bool false) 1 Try.underlying22 infoBool rfl _ (F p m).length ((F p m).map Value.bool) rfl wr.heap.size (.bool true) rfl J1.own (new1 _ _ _) (by simp) rfl hmx (by omega) (by simp; omega) ?_; intro v' w2 g2 g3 g4)
                  have J3 := HJ.out v' w2 g2 g3
                  go_roundw
                  case rel => exact ⟨m + 1, by omega, by go_num, J3⟩
                  case measure => simp [intOf]; omega
              · have t1 : ((x : Int) / 2 ^ (d - k) == (p : Int)) = false := by rw [div_eq_cast]; simp [hq]
                have E3 := Lib.hid (E2.out hq)
                clear hq E1 E2
                go_wp2
                go_roundw
                case rel => exact ⟨m + 1, by omega, by go_num, by rw [E3.out]; exact I⟩
                case measure => simp [intOf]; omega
            · have hmn : m = l.length := by omega
              subst hmn
              rw [Q3.out] at I
              clear Q0 Q1 Q2 Q3 Q4 Q5 HR
              go_wp2
              go_roundw
              case rel => exact ⟨p + 1, by omega, by go_num, I⟩
              case measure => simp [intOf]; omega
        · have hpn : p = P := by omega
          subst hpn
          rw [Q4.out] at I
          have hblen : (Wv.lbits (d - 1 - k) p l).length = l.length := by
            rw [← HP.out]
            exact Wv.lbits_len _ _ _ (by rw [show d - 1 - k + 1 + k = d from by omega]; exact hf)
          obtain ⟨Ab, cb, rfl, _⟩ := own_slice I.own
          obtain ⟨_, hrow⟩ := own_row false I.own
          have M1 := M.on I.old
          rw [hblen] at hrow
          have HBo := Lib.hid (fun W (hb : Below wr.heap.size wr W) => show Calls Try.prog 14 #[.slice Ab l.length cb] W fun e w' => ∃ g1 c1 g2 c2, e = .returned (.agg #[.int .i64 l.length, .slice (some ⟨g1, 0, none⟩) (l.length / 64 + 1) c1, .slice (some ⟨g2, 0, none⟩) (l.length / 64 + 1) c2]) ∧ w.heap.size + 2 ≤ g1 ∧ w.heap.size + 2 ≤ g2 ∧ some g1 ≠ v.ownBlock ∧ some g2 ≠ v.ownBlock ∧ IsBits w' w'.heap.size (some ⟨g1, 0, none⟩) (some ⟨g2, 0, none⟩) (Wv.lbits (d - 1 - k) p l) ∧ MR w l d k v xs w' from by
            refine (bitsOf_new Ab l.length cb (Wv.lbits (d - 1 - k) p l) W ((hrow.below hb).more hb.size) hblen.symm (by omega)).mono ?_
            rintro e w' ⟨g1, c1, g2, c2, rfl, p1, p2, hI, hb'⟩
            have M2 := M1.on hb
            have hlx := M2.box.lt
            have hne : ∀ x, W.heap.size ≤ x → some x ≠ v.ownBlock := fun x hx e => by have := (M2.lv.own.lt x e.symm).2; omega
            exact ⟨g1, c1, g2, c2, rfl, by omega, by omega, hne g1 p1, hne g2 p2, hI, M2.on hb'⟩)
          have c2 := M1.c2
          have h63 : k + 1 ≤ maxLen := by unfold maxLen; omega
          have hby : (k + 1) * 56 ≤ 140737488355328 := by omega
          rw [hblen]
          clear hblen hrow I Q0 Q1 Q2 Q3 Q4 Q5 HR M M1
          have hLB : Wv.lbits (d - 1 - k) p l = Wv.lbits (d - 1 - k) (2 ^ k) l := by rw [HP.out]
          rw [hLB] at HBo
          clear hLB
          go_upto_region 16 with fail
          clear hp2 hp3
          refine wp_region_takes 5 [0, 1, 2] [3, 4] (fun w' => w'.cell? ⟨w.heap.size + 1, 2, none⟩ = some v) (by kernel_rfl) (by kernel_rfl) c2 ?_
          refine wpTakes_cons (v := ?_) _ at0 rfl ?_ ?_ ?_
          rotate_left 1
          · intro W x0
            go_simp
            rfl
          · exact fun _ _ _ h => h
          simp only [Act.put, List.setIfInBounds_toArray, List.set_cons_zero, List.set_cons_succ]
          refine wpTakes_cons (v := ?_) _ at1 rfl ?_ ?_ ?_
          rotate_left 1
          · intro W x0
            go_simp
            rfl
          · exact fun _ _ _ h => h
          simp only [Act.put, List.setIfInBounds_toArray, List.set_cons_zero, List.set_cons_succ]
          refine wpTakes_cons (v := ?_) _ at2 rfl ?_ ?_ ?_
          rotate_left 1
          · intro W x0
            go_simp
            rfl
          · exact fun _ _ _ h => h
          simp only [Act.put, List.setIfInBounds_toArray, List.set_cons_zero, List.set_cons_succ]
          refine wpTakes_nil (wpCalls_cons _ at3 rfl fun K hK => ?_)
          go_simp
          go_at_call 14
          refine (HBo.out _ (Below.refl _ _).drew).mono ?_
          rintro e w4 ⟨g, c1, g2, c3, rfl, p1, p2, n1, n2, hI, J3⟩
          refine hK.out _ _ J3.c2 ?_
          clear hK
          refine wpCalls_cons _ at4 rfl fun K hK => ?_
          go_simp
          have hbb := (Below.refl _ w4).alloc (Nat.le_refl _) (.cells #[.int .i64 l.length, .slice (some ⟨g, 0, none⟩) (l.length / 64 + 1) c1, .slice (some ⟨g2, 0, none⟩) (l.length / 64 + 1) c3] 27)
          have J4 := J3.on hbb
          have hI4 := (hI.below hbb).more hbb.size
          refine hK.out _ _ J4.c2 (wpCalls_nil ?_)
          clear hK J3 hI
          simp only [List.drop_succ_cons, List.drop_zero]
          obtain ⟨bi, hbi, hbz⟩ := Option.map_eq_some_iff.1 infoBits4
          simp only [Prod.mk.injEq] at hbz
          obtain ⟨z1, z2, z3⟩ := hbz
          have hx1 := J4.box.lt
          obtain ⟨W4, hW4⟩ : ∃ W4, W4 = w4.alloc (.cells #[.int .i64 l.length, .slice (some ⟨g, 0, none⟩) (l.length / 64 + 1) c1, .slice (some ⟨g2, 0, none⟩) (l.length / 64 + 1) c3] 27) := ⟨_, rfl⟩
          have hnews : ∀ j u, ([.int .i64 l.length, .slice (some ⟨g, 0, none⟩) (l.length / 64 + 1) c1, .slice (some ⟨g2, 0, none⟩) (l.length / 64 + 1) c3] : List Value)[j]? = some u → W4.cell? ((⟨w4.heap.size, 0, none⟩ : Addr).add j) = some u := by
            rw [hW4]
            exact World.news_of_block (t := 27) (fr := (0, 0)) (heap_alloc_new w4 _)
          rw [← hW4] at J4 hI4 hx1 ⊢
          clear hW4 hbb
          go_wp2_with (at_builtin; refine wpList_append_lies _ rfl _ _ 43 rfl (w.heap.size + 2) 27 bi _ 3 56 Try.underlying43 hbi z1 z2 z3 rfl (by omega) v k xs rfl J4.lv.own ⟨w4.heap.size, 0, none⟩ 1 1 _ rfl rfl hnews (by intro u hu; simp at hu; rcases hu with rfl | rfl | rfl <;> rfl) (by omega) h63 hby (by omega) _ rfl ?_; intro g5 cap5 w5 o5 gr5 at5 lt5; have b5 := J4.far gr5; have e5 : w5.cell? ⟨w.heap.size + 1, 2, none⟩ = some v := b5.cell (i := 2) (by omega); have f5 := b5.frozen 2)
          have L5 : LvO (w.heap.size + 2) l d (k + 1) (.slice (some ⟨g5, 0, none⟩) (k + 1) cap5) _ w5 := J4.lv.app g g2 _ _ p1 p2 hI4 n1 n2 gr5 (at5.elim (fun h => .inl h.symm) (fun h => .inr (congrArg some h))) o5
          have M6 := J4.app gr5 L5
          go_roundw
          case rel => exact ⟨k + 1, _, _, by omega, by go_num, M6⟩
          case measure => simp [intOf]; omega
    · have hkd : k = d := by omega
      subst hkd
      obtain ⟨A9, c9, rfl⟩ : ∃ A9 c9, v = .slice A9 k c9 := by
        rcases M.lv.own.2 with ⟨e, h0⟩ | ⟨g, cap, cur, e, _⟩
        · exact ⟨none, 0, by rw [e]; congr 1; exact h0.symm⟩
        · exact ⟨_, _, e⟩
      obtain ⟨_, hcap, hLV⟩ := M.lv.lv hf
      have HC := Lib.hid hcap
      have x0 : wr.cell? ⟨w.heap.size + 1, 0, none⟩ = some (.int .i64 l.length) := M.box.cell (i := 0) (by omega)
      have x1 : wr.cell? ⟨w.heap.size + 1, 1, none⟩ = some (.int .i64 k) := M.box.cell (i := 1) (by omega)
      have x2 : wr.cell? ⟨w.heap.size + 1, 2, none⟩ = some (.slice A9 k c9) := M.box.cell (i := 2) (by omega)
      have r0 : wr.cell? ⟨w.heap.size, 0, none⟩ = some (.int .i64 0) := M.res.cell (i := 0) (by omega)
      have r1 : wr.cell? ⟨w.heap.size, 1, none⟩ = some (.int .i64 0) := M.res.cell (i := 1) (by omega)
      have r2 : wr.cell? ⟨w.heap.size, 2, none⟩ = some (.slice none 0 0) := M.res.cell (i := 2) (by omega)
      have f0 := M.res.frozen 0
      have f1 := M.res.frozen 1
      have f2 := M.res.frozen 2
      have HRs := Lib.hid (((M.res.set 0 (.int .i64 l.length)).set 1 (.int .i64 k)).set 2 (.slice A9 k c9))
      have hold := M.old
      have HW9 : Hid (∀ a b e : Value, Wave (((wr.setCell ⟨w.heap.size, 0, none⟩ a).setCell ⟨w.heap.size, 1, none⟩ b).setCell ⟨w.heap.size, 2, none⟩ e) A9 k l) := Lib.hid fun a b e => by
        have L := ((M.lv.low ⟨w.heap.size, 0, none⟩ a (by show w.heap.size < w.heap.size + 2; omega)).low ⟨w.heap.size, 1, none⟩ b (by show w.heap.size < w.heap.size + 2; omega)).low ⟨w.heap.size, 2, none⟩ e (by show w.heap.size < w.heap.size + 2; omega)
        exact ⟨(L.lv hf).2.2, hf, h1, h16, by omega⟩
      clear M hcap hLV HR
      go_wp2
      have s0 := HRs.out.cell (i := 0) (by omega)
      have s1 := HRs.out.cell (i := 1) (by omega)
      have s2 := HRs.out.cell (i := 2) (by omega)
      simp at s0 s1 s2
      refine bodyPost_ret (v := .agg #[.int .i64 l.length, .int .i64 k, .slice A9 k c9]) (by simp [results, Try.results39, go_sem, s0, s1, s2]) rfl ⟨A9, c9, rfl, HC.out, HW9.out _ _ _, ?_⟩
      exact ((hold.setCell (by simp) _).setCell (by simp) _).setCell (by simp) _

end Go.Proofs.Ytgnakccbkglfpaa
