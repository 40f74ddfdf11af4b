/- Make of numbers that fit: the walk. -/
import Derived.Test.YtgnakccbkglfpaaWs
namespace Go.Proofs.Ytgnakccbkglfpaa
open Go.RowKit
attribute [local irreducible] Bt.pop Bt.popF

theorem infoBits4 : (Try.prog.info? 27).map (fun i => (i.zero, i.size, i.bytes)) = some (some (.agg #[.int .i64 0, .slice none 0 0, .slice none 0 0]), 3, 56) := by kernel_rfl

/-- in the middle of a round: the lists are there, and the level's number -/
structure RJ (w : World) (X K : Nat) (l : List Nat) (d k : Nat) (v : Value) (xs : List Value) (P : Nat → Prop) (A : Option Addr) (gs : List (List Nat)) (W : World) : Prop where
  mi : MI w X l d k v xs W
  row : GRowL W P W.heap.size A gs
  kc : W.cell? ⟨K, 0, none⟩ = some (.int .i64 k)
  ltK : K < W.heap.size
theorem RJ.on {w : World} {X K : Nat} {l : List Nat} {d k : Nat} {v : Value} {xs : List Value} {P : Nat → Prop} {A : Option Addr} {gs : List (List Nat)} {W W' : World} (h : RJ w X K l d k v xs P A gs W) (hb : Below W.heap.size W W') : RJ w X K l d k v xs P A gs W' :=
  ⟨h.mi.on hb, h.row.on hb, (hb.cell (p := ⟨K, 0, none⟩) h.ltK).trans h.kc, Nat.lt_of_lt_of_le h.ltK hb.size⟩
theorem RJ.isOne {w : World} {X K : Nat} {l : List Nat} {d k : Nat} {v : Value} {xs : List Value} {P : Nat → Prop} {A : Option Addr} {gs : List (List Nat)} {W : World} (h : RJ w X K l d k v xs P A gs W) (hd : d ≤ 16) (hk : k < d) : IsOne 68 #[.pointer (some ⟨w.heap.size, 0, none⟩), .pointer (some ⟨K, 0, none⟩)] (d - 1 - k) W :=
  fun _ hW n hn => make1_any w.heap.size K d k n _ (h.on hW).mi.dc (h.on hW).kc hn hd hk
/-- a store below the levels -/
theorem LvO.low {base : Nat} {l : List Nat} {d k : Nat} {v : Value} {xs : List Value} {W : World} (h : LvO base l d k v xs W) (p : Addr) (u : Value) (hp : p.block < base) : LvO base l d k v xs (W.setCell p u) :=
  ⟨ownsRow_setCell_below h.own hp _, fun j hj => by
    obtain ⟨g, g2, c1, c2, p1, p2, q1, q2, q3, q4, q5⟩ := h.each j hj
    exact ⟨g, g2, c1, c2, p1, p2, q1, q2, q3, q4.set p u (by omega) (by omega), q5⟩⟩
/-- the levels' cell -/
theorem MI.c2 {w : World} {X : Nat} {l : List Nat} {d k : Nat} {v : Value} {xs : List Value} {W : World} (h : MI w X l d k v xs W) : W.cell? ⟨X, 2, none⟩ = some v := h.box.cell (i := 2) (by omega)

set_option maxHeartbeats 4000000 in
theorem make_wave (A : Option Addr) (c : Nat) (l : List Nat) (d : Nat) (w : World) (hr : NRow w w.heap.size A l) (h1 : 1 ≤ d) (h16 : d ≤ 16) (hf : ∀ n ∈ l, n < 2 ^ d) (hs : l.length ≤ 17592186043904) :
    Calls Try.prog 36 #[.slice A l.length c, .int .i64 d] w fun e w' => ∃ A' c', e = .returned (.tuple #[.agg #[.int .i64 l.length, .int .i64 d, .slice A' d c'], .bool true]) ∧ d ≤ c' ∧ Wave w' A' d l ∧ Below w.heap.size w w' := by
  have HM := Lib.hid (fun W => mayBeDeep_any d W)
  rw [deepOk_yes d (by omega) (by omega)] at HM
  have HA : Hid (∀ W, Below w.heap.size w W → Calls Try.prog 67 #[.slice A l.length c, .int .i64 (wrap64 (2 ^ d))] W fun e w' => e = .returned (.bool true) ∧ Below W.heap.size W w') := Lib.hid fun W hW => by
    have := allBelow_any A c (l.map fun (n : Nat) => (n : Int)) (wrap64 (2 ^ d)) W (hr.on hW).ints (by rw [List.length_map]; omega)
    rwa [insB_wrap d l h16 hf, List.length_map] at this
  have hb0 : Below w.heap.size w ((w.alloc (.cells #[.int .i64 d] 3)).alloc (.cells #[.int .i64 0, .int .i64 0, .slice none 0 0] 45)) := ((Below.refl _ _).alloc (Nat.le_refl _) _).alloc (by simp) _
  have hR := wvF_alloc (w.alloc (.cells #[.int .i64 d] 3)) 0 0 (.slice none 0 0)
  rw [World.size_alloc] at hR
  have hD : ((w.alloc (.cells #[.int .i64 d] 3)).alloc (.cells #[.int .i64 0, .int .i64 0, .slice none 0 0] 45)).cell? ⟨w.heap.size, 0, none⟩ = some (.int .i64 d) := by simp
  obtain ⟨V, hV⟩ : ∃ V, V = ((w.alloc (.cells #[.int .i64 d] 3)).alloc (.cells #[.int .i64 0, .int .i64 0, .slice none 0 0] 45)) := ⟨_, rfl⟩
  rw [← hV] at hb0 hR hD
  have hszV : V.heap.size = w.heap.size + 2 := by rw [hV]; simp
  have HV := Lib.hid hV
  clear hV
  go_enter Try.func36, Try.ntmps36
  go_wp2_with fail
  with_reducible refine (HM.out _).mono ?_
  rintro e w' ⟨rfl, rfl⟩
  go_wp2_with fail
  rw [← HV.out]
  with_reducible refine (HA.out V hb0).mono ?_
  rintro e w1 ⟨rfl, hb1⟩
  have hR1 := hR.of_block (hb1.block _ hR.lt)
  have hD1 : w1.cell? ⟨w.heap.size, 0, none⟩ = some (.int .i64 d) := (hb1.cell (p := ⟨w.heap.size, 0, none⟩) (by show w.heap.size < V.heap.size; omega)).trans hD
  have hb2 := hb0.trans (hb1.mono hb0.size)
  have hsz1 : w.heap.size + 2 ≤ w1.heap.size := by have := hb1.size; omega
  obtain ⟨V1, hV1⟩ : ∃ V1, V1 = w1.alloc (.cells #[.int .i64 l.length, .int .i64 d, .slice none 0 0] 45) := ⟨_, rfl⟩
  have hszV1 : V1.heap.size = w1.heap.size + 1 := by rw [hV1]; simp
  have hX1 : V1.rowIs w1.heap.size 45 3 (wvF l.length d (.slice none 0 0)) := by rw [hV1]; exact wvF_alloc w1 l.length d (.slice none 0 0)
  have hbV1 : Below w1.heap.size w1 V1 := by rw [hV1]; exact (Below.refl _ _).alloc (Nat.le_refl _) _
  have M1 : MI w w1.heap.size l d 0 (.slice none 0 0) [] V1 := by
    refine ⟨(hbV1.cell (p := ⟨w.heap.size, 0, none⟩) (by show w.heap.size < w1.heap.size; omega)).trans hD1, hR1.of_block (hbV1.block _ hR1.lt), hX1, LvO.nil _ _ _ _, hb2.trans (hbV1.mono hb2.size), hsz1⟩
  obtain ⟨V2, hV2⟩ : ∃ V2, V2 = V1.alloc (.cells #[.slice A l.length c] 25) := ⟨_, rfl⟩
  have hbV2 : Below V1.heap.size V1 V2 := by rw [hV2]; exact (Below.refl _ _).alloc (Nat.le_refl _) _
  have M2 := M1.on hbV2
  have G2 : GRowL V2 (fun b => b ≠ w1.heap.size) V2.heap.size (some ⟨V1.heap.size, 0, none⟩) [l] := by
    refine ⟨fun _ => A, fun _ => c, fun _ => ⟨V1.heap.size, 0, rfl, by rw [hV2]; simp, fun i hi => ?_⟩, fun x hx _ => ?_, fun i hi => ⟨?_, fun x hx hp => ?_⟩⟩
    · obtain rfl : i = 0 := by simpa using hi
      rw [hV2]; simp [gv]
    · injection hx with hx; subst hx; show V1.heap.size ≠ w1.heap.size; omega
    · obtain rfl : i = 0 := by simpa using hi
      exact hr.on M2.old
    · obtain rfl : i = 0 := by simpa using hi
      obtain ⟨b, o, e, hb, _⟩ := hr hp
      subst hx
      injection e with e; subst e
      show b ≠ w1.heap.size
      omega
  have d2 := M2.dc
  have HV1 := Lib.hid hV1
  have HV2 := Lib.hid hV2
  have HSZ := Lib.hid hszV1
  have HI : Hid (GInv l d 0 [l]) := Lib.hid (GInv.start l d hf)
  clear HA HM hR hR1 hb0 hb1 HV hV1 hV2 hszV1 hX1 hbV1 hbV2 M1 hD hszV
  go_upto_region 5 with fail
  rw [← HV1.out, ← HV2.out]
  first | rw [← HSZ.out] | skip
  clear HV1 HV2 HSZ
  go_wp2
  go_loopw [7, 28] (fun s7 t W => ∃ (k : Nat) (v : Value) (xs : List Value) (gs : List (List Nat)) (A' : Option Addr) (c' : Nat) (P : Nat → Prop), k ≤ d ∧ t = .int .i64 k ∧ s7 = .slice A' gs.length c' ∧ GRowL W P W.heap.size A' gs ∧ Hid ((∀ g, v.ownBlock = some g → ¬ P g) ∧ ¬ P w1.heap.size) ∧ Hid (GInv l d k gs) ∧ MI w w1.heap.size l d k v xs W) (fun _ t _ => d - (intOf t).toNat)
  case atStart => exact ⟨0, _, _, [l], _, 1, _, Nat.zero_le _, rfl, rfl, G2, (⟨fun g hg => by simp [Value.ownBlock] at hg, fun h => h rfl⟩ : _ ∧ _), HI, M2⟩
  case round =>
    obtain ⟨k, v, xs, gs, A', c', P, hk, rfl, rfl, G, HP, HG, M⟩ := hrel
    clear G2 HI M2 d2
    by_cases hlt : k < d
    · have hlz : (k : Int) < (d : Int) := by omega
      have hgl : gs.length ≤ 65536 := Nat.le_trans HG.out.2 (Nat.le_trans (Nat.pow_le_pow_right (by omega) (show k ≤ 16 by omega)) (by decide))
      have hflat := HG.out.flat
      have hbits : gs.flatten.map (Wv.bit (d - 1 - k)) = Wv.lbits (d - 1 - k) (2 ^ k) l := by rw [hflat]; unfold Wv.lbits; rw [show d - 1 - k + 1 = d - k from by omega]
      have hblen : (Wv.lbits (d - 1 - k) (2 ^ k) l).length = l.length := Wv.lbits_len _ _ _ (by rw [show d - 1 - k + 1 + k = d from by omega]; exact hf)
      have hflen : gs.flatten.length = l.length := by rw [← hblen, ← hbits, List.length_map]
      have hmem : ∀ n ∈ gs.flatten, n < 65536 := fun n hn => by
        rw [hflat] at hn
        have h3 := hf n (lev_mem _ _ _ _ hn)
        have h4 : 2 ^ d ≤ 2 ^ 16 := Nat.pow_le_pow_right (by omega) h16
        omega
      obtain ⟨V3, hV3⟩ : ∃ V3, V3 = wr.alloc (.cells #[.int .i64 k] 3) := ⟨_, rfl⟩
      have hbV3 : Below wr.heap.size wr V3 := by rw [hV3]; exact (Below.refl _ _).alloc (Nat.le_refl _) _
      have J0 : RJ w w1.heap.size wr.heap.size l d k v xs P A' gs V3 := ⟨M.on hbV3, G.on hbV3, by rw [hV3]; simp, by rw [hV3]; simp⟩
      have HBo := Lib.hid (fun W (h : RJ w w1.heap.size wr.heap.size l d k v xs P A' gs W) => show Calls Try.prog 70 #[.slice A' gs.length c', .func (.func 68) #[] #[.pointer (some ⟨w.heap.size, 0, none⟩), .pointer (some ⟨wr.heap.size, 0, none⟩)]] W fun e w' => ∃ Ab cb, e = .returned (.slice Ab l.length cb) ∧ Row w' w'.heap.size Ab l.length (fun i => .bool ((Wv.lbits (d - 1 - k) (2 ^ k) l).getD i false)) ∧ RJ w w1.heap.size wr.heap.size l d k v xs P A' gs w' from by
        refine (bitsOf_groups 68 _ (d - 1 - k) A' c' gs W (enters_of Try.func68 (by kernel_rfl) rfl) h.row.row (h.isOne h16 hlt) hmem (by omega) (by omega)).mono ?_
        rintro e w' ⟨vb, rfl, hO⟩
        rw [hbits] at hO
        obtain ⟨Ab, cb, rfl, _⟩ := own_slice hO.own
        obtain ⟨_, hrow⟩ := own_row false hO.own
        rw [hblen] at hrow ⊢
        exact ⟨Ab, cb, rfl, hrow, h.on hO.old⟩)
      have HMk := Lib.hid (fun W Ab cb (h : RJ w w1.heap.size wr.heap.size l d k v xs P A' gs W) (hrow : Row W W.heap.size Ab l.length (fun i => .bool ((Wv.lbits (d - 1 - k) (2 ^ k) l).getD i false))) => show Calls Try.prog 11 #[.slice Ab l.length cb] W fun e w' => ∃ g g2, e = .returned (.agg #[.int .i64 l.length, .slice (some ⟨g, 0, none⟩) (l.length / 64 + 1) (l.length / 64 + 1), .slice (some ⟨g2, 0, none⟩) (l.length / 64 + 1) (l.length / 64 + 1)]) ∧ w1.heap.size + 1 ≤ g ∧ w1.heap.size + 1 ≤ g2 ∧ some g ≠ v.ownBlock ∧ some g2 ≠ v.ownBlock ∧ IsBits w' w'.heap.size (some ⟨g, 0, none⟩) (some ⟨g2, 0, none⟩) (Wv.lbits (d - 1 - k) (2 ^ k) l) ∧ RJ w w1.heap.size wr.heap.size l d k v xs P A' gs w' from by
        refine (make_new Ab l.length cb (Wv.lbits (d - 1 - k) (2 ^ k) l) W hrow hblen.symm (by omega)).mono ?_
        rintro e w' ⟨g, g2, rfl, p1, p2, hI, hb⟩
        have hlx := h.mi.box.lt
        have hne : ∀ x, W.heap.size ≤ x → some x ≠ v.ownBlock := fun x hx e => by have := (h.mi.lv.own.lt x e.symm).2; omega
        exact ⟨g, g2, rfl, by omega, by omega, hne g p1, hne g2 p2, hI, h.on hb⟩)
      have hvK : ∀ g, v.ownBlock = some g → g < wr.heap.size := fun g hg => (M.lv.own.lt g hg).2
      have hXK : w1.heap.size < wr.heap.size := M.box.lt
      have HSh := Lib.hid (fun W v' xs' (hM : MI w w1.heap.size l d (k + 1) v' xs' W) (hG : GRowL W P W.heap.size A' gs) (hKc : W.cell? ⟨wr.heap.size, 0, none⟩ = some (.int .i64 k)) (hKl : wr.heap.size < W.heap.size) => shareOut_any 68 #[.pointer (some ⟨w.heap.size, 0, none⟩), .pointer (some ⟨wr.heap.size, 0, none⟩)] (d - 1 - k) A' c' gs W (enters_of Try.func68 (by kernel_rfl) rfl) hG.row
        (fun _ hW n hn => make1_any w.heap.size wr.heap.size d k n _ (hM.on hW).dc ((hW.cell (p := ⟨wr.heap.size, 0, none⟩) hKl).trans hKc) hn h16 hlt) hmem hgl (by omega))
      have HGs := Lib.hid (HG.out.step hlt)
      have HV3 := Lib.hid hV3
      have J1 := J0.on (Below.refl _ _).drew
      have c2 := J0.mi.c2
      have h63 : k + 1 ≤ maxLen := by unfold maxLen; omega
      have hby : (k + 1) * 56 ≤ 140737488355328 := by omega
      clear hV3 hflat hbits hblen hflen hmem hbV3 G M HG
      go_upto_region 9 with fail
      rw [← HV3.out]
      clear HV3
      refine wp_region_takes 7 [0, 1, 2, 3] [4, 5, 6] (fun w' => w'.cell? ⟨w1.heap.size, 2, none⟩ = some v) (by kernel_rfl) (by kernel_rfl) c2 ?_
      refine wpTakes_cons (v := ?_) _ at0 rfl ?_ ?_ ?_
      rotate_left 1
      · intro W x0
        go_simp
        rfl
      · exact fun _ _ _ h => h
      simp only [Act.put, List.setIfInBounds_toArray, List.set_cons_zero, List.set_cons_succ]
      refine wpTakes_cons (v := ?_) _ at1 rfl ?_ ?_ ?_
      rotate_left 1
      · intro W x0
        go_simp
        rfl
      · exact fun _ _ _ h => h
      simp only [Act.put, List.setIfInBounds_toArray, List.set_cons_zero, List.set_cons_succ]
      refine wpTakes_cons (v := ?_) _ at2 rfl ?_ ?_ ?_
      rotate_left 1
      · intro W x0
        go_simp
        rfl
      · exact fun _ _ _ h => h
      simp only [Act.put, List.setIfInBounds_toArray, List.set_cons_zero, List.set_cons_succ]
      refine wpTakes_cons (v := ?_) _ at3 rfl ?_ ?_ ?_
      rotate_left 1
      · intro W x0
        go_simp
        rfl
      · exact fun _ _ _ h => h
      simp only [Act.put, List.setIfInBounds_toArray, List.set_cons_zero, List.set_cons_succ]
      refine wpTakes_nil (wpCalls_cons _ at4 rfl fun K hK => ?_)
      go_simp
      go_at_call 70
      refine (HBo.out _ J1).mono ?_
      rintro e w3 ⟨Ab, cb, rfl, hrow, J2⟩
      refine hK.out _ _ J2.mi.c2 ?_
      clear hK
      refine wpCalls_cons _ at5 rfl fun K hK => ?_
      go_simp
      go_at_call 11
      refine (HMk.out _ _ _ J2 hrow).mono ?_
      rintro e w4 ⟨g, g2, rfl, p1, p2, n1, n2, hI, J3⟩
      refine hK.out _ _ J3.mi.c2 ?_
      clear hK
      refine wpCalls_cons _ at6 rfl fun K hK => ?_
      go_simp
      have hbb := (Below.refl _ w4).alloc (Nat.le_refl _) (.cells #[.int .i64 l.length, .slice (some ⟨g, 0, none⟩) (l.length / 64 + 1) (l.length / 64 + 1), .slice (some ⟨g2, 0, none⟩) (l.length / 64 + 1) (l.length / 64 + 1)] 27)
      have J4 := J3.on hbb
      have hI4 := (hI.below hbb).more hbb.size
      refine hK.out _ _ J4.mi.c2 (wpCalls_nil ?_)
      clear hK J3 hI
      simp only [List.drop_succ_cons, List.drop_zero]
      obtain ⟨bi, hbi, hbz⟩ := Option.map_eq_some_iff.1 infoBits4
      simp only [Prod.mk.injEq] at hbz
      obtain ⟨z1, z2, z3⟩ := hbz
      have hx1 := J4.mi.box.lt
      obtain ⟨W4, hW4⟩ : ∃ W4, W4 = w4.alloc (.cells #[.int .i64 l.length, .slice (some ⟨g, 0, none⟩) (l.length / 64 + 1) (l.length / 64 + 1), .slice (some ⟨g2, 0, none⟩) (l.length / 64 + 1) (l.length / 64 + 1)] 27) := ⟨_, rfl⟩
      have hnews : ∀ j u, ([.int .i64 l.length, .slice (some ⟨g, 0, none⟩) (l.length / 64 + 1) (l.length / 64 + 1), .slice (some ⟨g2, 0, none⟩) (l.length / 64 + 1) (l.length / 64 + 1)] : List Value)[j]? = some u → W4.cell? ((⟨w4.heap.size, 0, none⟩ : Addr).add j) = some u := by
        rw [hW4]
        exact World.news_of_block (t := 27) (fr := (0, 0)) (heap_alloc_new w4 _)
      rw [← hW4] at J4 hI4 hx1 ⊢
      clear hW4 hbb
      have hGS : Hid (∀ (W5 : World) (v' : Value) (xs' : List Value), W4.grownBy W5 v.ownBlock → LvO (w1.heap.size + 1) l d (k + 1) v' xs' W5 → MI w w1.heap.size l d (k + 1) v' xs' (W5.setCell ⟨w1.heap.size, 2, none⟩ v') ∧ GRowL (W5.setCell ⟨w1.heap.size, 2, none⟩ v') P (W5.setCell ⟨w1.heap.size, 2, none⟩ v').heap.size A' gs ∧ (W5.setCell ⟨w1.heap.size, 2, none⟩ v').cell? ⟨wr.heap.size, 0, none⟩ = some (.int .i64 k) ∧ wr.heap.size < (W5.setCell ⟨w1.heap.size, 2, none⟩ v').heap.size) := Lib.hid fun W5 v' xs' hg hl => by
        refine ⟨J4.mi.app hg hl, (J4.row.grown hg HP.out.1).set ⟨w1.heap.size, 2, none⟩ v' HP.out.2, ?_, by have := hg.size; have := J4.ltK; simp; omega⟩
        refine (World.cell?_setCell_far W5 ⟨w1.heap.size, 2, none⟩ ⟨wr.heap.size, 0, none⟩ v' (by simp; omega)).trans ?_
        exact (hg.cell_far ⟨wr.heap.size, 0, none⟩ J4.ltK (fun e => by have := hvK wr.heap.size e.symm; omega)).trans J4.kc
      go_wp2_with (at_builtin; refine wpList_append_lies _ rfl _ _ 43 rfl (w1.heap.size + 1) 27 bi _ 3 56 Try.underlying43 hbi z1 z2 z3 rfl (by omega) v k xs rfl J4.mi.lv.own ⟨w4.heap.size, 0, none⟩ 1 1 _ rfl rfl hnews (by intro u hu; simp at hu; rcases hu with rfl | rfl | rfl <;> rfl) (by omega) h63 hby (by omega) _ rfl ?_; intro g5 cap5 w5 o5 gr5 at5 lt5; have b5 := J4.mi.far gr5; have e5 : w5.cell? ⟨w1.heap.size, 2, none⟩ = some v := b5.cell (i := 2) (by omega); have f5 := b5.frozen 2)
      have L5 : LvO (w1.heap.size + 1) l d (k + 1) (.slice (some ⟨g5, 0, none⟩) (k + 1) cap5) _ w5 := J4.mi.lv.app g g2 _ _ p1 p2 hI4 n1 n2 gr5 (at5.elim (fun h => .inl h.symm) (fun h => .inr (congrArg some h))) o5
      obtain ⟨M6, G6, K6, l6⟩ := hGS.out _ _ _ gr5 L5
      obtain ⟨W6, hW6⟩ : ∃ W6, W6 = w5.setCell ⟨w1.heap.size, 2, none⟩ (.slice (some ⟨g5, 0, none⟩) (k + 1) cap5) := ⟨_, rfl⟩
      rw [← hW6] at M6 G6 K6 l6 ⊢
      have HS6 := Lib.hid (HSh.out W6 _ _ M6 G6 K6 l6)
      clear hW6 hGS HSh L5 o5 gr5 at5 lt5 b5 e5 f5 J4 J1 J2 hI4 HBo HMk
      go_wp2_with fail
      with_reducible refine HS6.out.mono ?_
      rintro e w7 ⟨A7, c7, rfl, G7, hb7⟩
      have M7 := M6.on hb7
      have HP7 : Hid ((∀ x, (Value.slice (some ⟨g5, 0, none⟩) (k + 1) cap5).ownBlock = some x → ¬ W6.heap.size ≤ x) ∧ ¬ W6.heap.size ≤ w1.heap.size) := Lib.hid ⟨fun x hx => by have := (M6.lv.own.lt x hx).2; omega, by have := M6.box.lt; omega⟩
      clear HS6 M6 G6 K6 l6
      generalize Wv.share (d - 1 - k) gs = gs7 at *
      go_wp2
      go_roundw
      case rel => exact ⟨k + 1, _, _, gs7, A7, c7, _, by omega, by go_num, rfl, G7, HP7, HGs, M7⟩
      case measure => simp [intOf]; omega
    · have hkd : k = d := by omega
      subst hkd
      obtain ⟨A9, c9, rfl⟩ : ∃ A9 c9, v = .slice A9 k c9 := by
        rcases M.lv.own.2 with ⟨e, h0⟩ | ⟨g, cap, cur, e, _⟩
        · exact ⟨none, 0, by rw [e]; congr 1; exact h0.symm⟩
        · exact ⟨_, _, e⟩
      obtain ⟨_, hcap, hLV⟩ := M.lv.lv hf
      have HC := Lib.hid hcap
      have x0 : wr.cell? ⟨w1.heap.size, 0, none⟩ = some (.int .i64 l.length) := M.box.cell (i := 0) (by omega)
      have x1 : wr.cell? ⟨w1.heap.size, 1, none⟩ = some (.int .i64 k) := M.box.cell (i := 1) (by omega)
      have x2 : wr.cell? ⟨w1.heap.size, 2, none⟩ = some (.slice A9 k c9) := M.box.cell (i := 2) (by omega)
      have r0 : wr.cell? ⟨w.heap.size + 1, 0, none⟩ = some (.int .i64 0) := M.res.cell (i := 0) (by omega)
      have r1 : wr.cell? ⟨w.heap.size + 1, 1, none⟩ = some (.int .i64 0) := M.res.cell (i := 1) (by omega)
      have r2 : wr.cell? ⟨w.heap.size + 1, 2, none⟩ = some (.slice none 0 0) := M.res.cell (i := 2) (by omega)
      have f0 := M.res.frozen 0
      have f1 := M.res.frozen 1
      have f2 := M.res.frozen 2
      have HR := Lib.hid (((M.res.set 0 (.int .i64 l.length)).set 1 (.int .i64 k)).set 2 (.slice A9 k c9))
      have hold := M.old
      have HW9 : Hid (∀ a b e : Value, Wave (((wr.setCell ⟨w.heap.size + 1, 0, none⟩ a).setCell ⟨w.heap.size + 1, 1, none⟩ b).setCell ⟨w.heap.size + 1, 2, none⟩ e) A9 k l) := Lib.hid fun a b e => by
        have hx := M.x0
        have L := ((M.lv.low ⟨w.heap.size + 1, 0, none⟩ a (by show w.heap.size + 1 < w1.heap.size + 1; omega)).low ⟨w.heap.size + 1, 1, none⟩ b (by show w.heap.size + 1 < w1.heap.size + 1; omega)).low ⟨w.heap.size + 1, 2, none⟩ e (by show w.heap.size + 1 < w1.heap.size + 1; omega)
        exact ⟨(L.lv hf).2.2, hf, h1, h16, by omega⟩
      clear M HG HP hcap hLV G
      go_wp2
      have s0 := HR.out.cell (i := 0) (by omega)
      have s1 := HR.out.cell (i := 1) (by omega)
      have s2 := HR.out.cell (i := 2) (by omega)
      simp at s0 s1 s2
      refine bodyPost_ret (v := .tuple #[.agg #[.int .i64 l.length, .int .i64 k, .slice A9 k c9], .bool true]) (by simp [results, Try.results36, go_sem, s0, s1, s2]) rfl ⟨A9, c9, rfl, HC.out, HW9.out _ _ _, ?_⟩
      exact ((hold.setCell (by simp) _).setCell (by simp) _).setCell (by simp) _

end Go.Proofs.Ytgnakccbkglfpaa
