/- The walk of the law BitsTells. -/
import Derived.Test.YtpdeeembhiiedaaRc
import Derived.Test.YtpdeeembhiiedaaAq
import Derived.Deep.DeepCutAuto
namespace Go.Proofs.Ytpdeeembhiiedaa
open Go.RowKit
attribute [local irreducible] Bt.pop Bt.popF oI nI aI near

set_option maxHeartbeats 1000000 in
theorem bitsTells_large (A : Option Addr) (n c : Nat) (i k : Int) (w : World) (hn : 1000 < n) :
    Calls Try.prog 3 #[.slice A n c, .int .i64 i, .int .i64 k] w fun e w' => e = .returned (.bool true) ∧ Below w.heap.size w w' := by
  go_enter Try.func3, Try.ntmps3
  go_wp2_with fail
  refine (madeL_any _).mono ?_
  rintro e w' ⟨rfl, hb⟩
  go_wp2
  go_ret
  exact ⟨rfl, hb⟩

section
variable {w0 : World} {l : List Bool} {n m B g g2 : Nat} {w : World}
theorem Inv.bitsOf (h : Inv w0 l n m B g g2 w) {A : Option Addr} {c : Nat} (hA : Row w0 w0.heap.size A n (fun k => .bool (l.getD k false))) :
    Calls Try.prog 10 #[.slice A n c] w fun e w' => ∃ A1 c1 A2 c2, e = .returned (.agg #[.int .i64 n, .slice A1 m c1, .slice A2 m c2]) ∧ IsBits w' w'.heap.size A1 A2 l ∧ Inv w0 l n m B g g2 w' := by
  have h1 := h.len; have h2 := h.parts; have h3 := h.small
  subst h1 h2
  exact (bitsOf_any A _ c l w ((hA.below h.old).more h.old.size) rfl h3).mono fun _ _ ⟨A1, c1, A2, c2, he, hI, hb⟩ => ⟨A1, c1, A2, c2, he, hI, h.step hb⟩
theorem Inv.same (h : Inv w0 l n m B g g2 w) {A1 A2 : Option Addr} {c1 c2 : Nat} (hI : IsBits w w.heap.size A1 A2 l) :
    Calls Try.prog 9 #[bv n m g g2, .agg #[.int .i64 n, .slice A1 m c1, .slice A2 m c2]] w fun e w' => e = .returned (.bool true) ∧ Inv w0 l n m B g g2 w' := by
  have h1 := h.len; have h2 := h.parts; have h3 := h.small
  subst h1 h2
  exact (sameBits_any _ _ _ _ _ _ _ _ _ _ _ _ _ _ (Bt.part l) (Bt.part l) (fun k => (Bt.ahd l k : Nat)) (fun k => (Bt.ahd l k : Nat)) w h.made.parts h.made.ahead hI.parts hI.ahead (by omega) (by omega)).mono
    fun _ _ ⟨r, he, hr, hb⟩ => ⟨he.trans (ret_bool (hr.2 ⟨rfl, rfl, ⟨rfl, fun _ _ => rfl⟩, fun _ _ => rfl⟩)), h.step hb⟩
theorem Inv.onesOf (h : Inv w0 l n m B g g2 w) {A : Option Addr} {c : Nat} (hA : Row w0 w0.heap.size A n (fun k => .bool (l.getD k false))) (i : Int) :
    Calls Try.prog 13 #[.slice A n c, .int .i64 i] w fun e w' => e = .returned (.int .i64 (oI l i)) ∧ Inv w0 l n m B g g2 w' :=
  (onesOf_any A n c l i w ((hA.below h.old).more h.old.size) h.len h.small).mono fun _ _ ⟨he, hw⟩ => ⟨he, hw ▸ h⟩
theorem Inv.placeOf (h : Inv w0 l n m B g g2 w) {A : Option Addr} {c : Nat} (hA : Row w0 w0.heap.size A n (fun k => .bool (l.getD k false))) (K : Nat) (hK : K ≤ 9223372036854775807) :
    Calls Try.prog 8 #[.slice A n c, .int .i64 K] w fun e w' => ∃ v, e = .returned (.int .i64 v) ∧ FindIs l K v ∧ Inv w0 l n m B g g2 w' :=
  (placeOf_any A n c l K w ((hA.below h.old).more h.old.size) h.len h.small hK).mono fun _ _ ⟨v, he, hv, hw⟩ => ⟨v, he, hv, hw ▸ h⟩
end

/-- is there such a place? -/
def inB (i : Int) (n : Nat) : Bool := decide (0 ≤ i ∧ i < (n : Int))
theorem inB_yes {i : Int} {n : Nat} (h : 0 ≤ i ∧ i < (n : Int)) : inB i n = true := by unfold inB; simp; exact h
theorem inB_no {i : Int} {n : Nat} (h : ¬ (0 ≤ i ∧ i < (n : Int))) : inB i n = false := by unfold inB; simp at h ⊢; exact h
theorem inB_of {i : Int} {n : Nat} (h : 0 ≤ i) : decide (i < (n : Int)) = inB i n := by unfold inB; simp [h]
theorem near_is (n i : Int) (h : 0 ≤ n) : max 0 (min i n) = (near n i : Int) := by unfold near; omega
theorem nI_is (l : List Bool) (i : Int) : nI l i = near l.length i - oI l i := by unfold nI oI; rfl
theorem aI_in (l : List Bool) (i : Nat) : aI l i = l.getD i false := by unfold aI; simp
theorem aI_out (l : List Bool) (i : Int) (h : i < 0 ∨ (l.length : Int) ≤ i) : aI l i = false := by
  unfold aI
  rcases h with h | h
  · have : decide (0 ≤ i) = false := by simp; omega
    rw [this]; rfl
  · rw [List.getD_eq_getElem?_getD, List.getElem?_eq_none (by omega)]; simp
theorem oI_le (l : List Bool) (i : Int) : 0 ≤ oI l i ∧ oI l i ≤ l.length := by
  have h := Bt.ones_le (l.take i.toNat)
  rw [List.length_take] at h
  unfold oI; omega

set_option maxHeartbeats 2000000 in
theorem bitsTells_small (A : Option Addr) (n c : Nat) (l : List Bool) (i k : Int) (w : World) (hA : Row w w.heap.size A n (fun k => .bool (l.getD k false))) (hl : n = l.length) (hn : n ≤ 1000)
    (hi1 : -9223372036854775808 ≤ i) (hi2 : i ≤ 9223372036854775807) (hk2 : k ≤ 9223372036854775807) :
    Calls Try.prog 3 #[.slice A n c, .int .i64 i, .int .i64 k] w fun e w' => e = .returned (.bool true) ∧ Below w.heap.size w w' := by
  have Hl := Lib.hid hl
  have HA := Lib.hid hA
  clear hl hA
  have hd : decide (1000 < (n : Int)) = false := by simp; omega
  go_enter Try.func3, Try.ntmps3
  go_wp2_with (at_builtin; refine wpList_copy_nil _ rfl _ _ 22 rfl 4 (.bool false) 1 Try.underlying22 infoBool rfl A n c (fun k => .bool (l.getD k false)) rfl rfl HA.out (fun _ _ => rfl) (by unfold maxLen; omega) (by omega) ?_; intro A' c' w1 hr1 hb1)
  refine (make_any _ _ _ l _ hr1 Hl.out (by omega)).mono ?_
  rintro e w2 ⟨g, g2, rfl, hI, hb⟩
  have J := Inv.start (w0 := w) (t := 27) hI (hb1.trans (hb.mono hb1.size)) Hl.out (by rw [← Hl.out]) (show n ≤ 140737488355328 by omega)
  generalize n / 64 + 1 = m at J ⊢
  clear hI hb hr1 hb1
  go_upto_region 5 with fail
  generalize hW : w2.alloc _ = W1 at J ⊢
  clear hW
  generalize w2.heap.size = B at J ⊢
  go_cut [25] (fun s wx => s = .bool (inB i n) ∧ W1 = wx)
  case first =>
    by_cases h0 : 0 ≤ i
    · have H := Lib.hid (inB_of (n := n) h0)
      go_wp2_with fail
      go_meet
      exact ⟨by rw [← H.out], rfl⟩
    · have H := Lib.hid (inB_no (n := n) (fun h => h0 h.1))
      go_wp2_with fail
      go_meet
      exact ⟨by rw [H.out], rfl⟩
  case rest =>
  obtain ⟨rfl, rfl⟩ := hcut
  go_upto_if 25 with fail
  go_cut [8] (fun s wx => s = .bool (aI l i) ∧ W1 = wx)
  case first =>
    by_cases h0 : 0 ≤ i ∧ i < (n : Int)
    · obtain ⟨I, rfl⟩ := Int.eq_ofNat_of_zero_le h0.1
      have hd2 := inB_yes h0
      obtain ⟨b, o, rfl, hbb, hc⟩ := HA.out (by omega)
      have hc1 : W1.cell? ⟨b, o + I, none⟩ = some (.bool (l.getD I false)) := (J.old.cell (p := ⟨b, o + I, none⟩) hbb).trans (hc I (by omega))
      have H := Lib.hid (aI_in l I)
      clear hc
      have hI : (I : Int) < (n : Int) := h0.2
      clear h0
      generalize l.getD I false = x at hc1 H
      rw [hd2]
      clear hd2
      go_wp2_with fail
      go_meet
      exact ⟨by rw [H.out], rfl⟩
    · have hd2 := inB_no h0
      have H := Lib.hid (aI_out l i (by have := Hl.out; omega))
      clear h0
      rw [hd2]
      clear hd2
      go_wp2_with fail
      go_meet
      exact ⟨by rw [H.out], rfl⟩
  case rest =>
  obtain ⟨rfl, rfl⟩ := hcut
  go_upto_if 31 with fail
  go_cut [9] (fun s wx => ∃ v, s = .int .i64 v ∧ FindIs l k v ∧ Inv w l n m B g g2 wx)
  case first =>
    by_cases h0 : 0 ≤ k
    · obtain ⟨K, rfl⟩ := Int.eq_ofNat_of_zero_le h0
      go_wp2_with fail
      refine (J.placeOf HA.out K (by omega)).mono ?_
      rintro e w3 ⟨v, rfl, hv, J3⟩
      have HV := Lib.hid hv
      clear hv
      go_wp2_with fail
      go_meet
      exact ⟨v, rfl, HV.out, J3⟩
    · go_wp2_with fail
      go_meet
      exact ⟨-1, rfl, .inl ⟨rfl, .inl (by omega)⟩, J⟩
  case rest =>
  clear J
  obtain ⟨v, rfl, hv, J⟩ := hcut
  have HV := Lib.hid hv
  clear hv
  go_upto_region 10 with fail
  generalize hW : wc = W2 at J ⊢
  clear hW
  go_cut [10] (fun s wx => s = .int .i64 (near n i) ∧ W2 = wx)
  case first =>
    have H := Lib.hid (near_is n i (by omega))
    go_wp2_with fail
    all_goals
      go_meet
      exact ⟨by rw [← H.out]; go_num, rfl⟩
  case rest =>
  obtain ⟨rfl, rfl⟩ := hcut
  have j0 := J.c0
  have j1 := J.c1
  have j2 := J.c2
  have J0 := J.drew
  have hob := oI_le l i
  have hne := near_le n i (by omega)
  have hq : nI l i = near n i - oI l i := by rw [nI_is, ← Hl.out]
  have HB := Lib.hid (fun W (h : Inv w l n m B g g2 W) => h.bitsOf (c := c) HA.out)
  have HS := Lib.hid (fun W A1 c1 A2 c2 (hI : IsBits W W.heap.size A1 A2 l) (h : Inv w l n m B g g2 W) => h.same (c1 := c1) (c2 := c2) hI)
  have HT := Lib.hid (fun W (h : Inv w l n m B g g2 W) => h.at_ i)
  have HO := Lib.hid (fun W (h : Inv w l n m B g g2 W) => h.ones i)
  have HP := Lib.hid (fun W (h : Inv w l n m B g g2 W) => h.onesOf (c := c) HA.out i)
  have HN := Lib.hid (fun W (h : Inv w l n m B g g2 W) => h.noughts i)
  have HF := Lib.hid (fun W (h : Inv w l n m B g g2 W) => (h.find k hk2).mono (fun e w' (hh : ∃ v', e = .returned (.int .i64 v') ∧ FindIs l k v' ∧ Inv w l n m B g g2 w') => (⟨hh.choose_spec.1.trans (ret_int (FindIs.one l k _ _ hh.choose_spec.2.1 HV.out)), hh.choose_spec.2.2⟩ : e = .returned (.int .i64 v) ∧ Inv w l n m B g g2 w')))
  have HM := Lib.hid (fun W (h : Inv w l n m B g g2 W) => (madeL_any W).mono (fun e w' (hh : e = .returned (.bool true) ∧ Below W.heap.size W w') => (⟨hh.1, h.step hh.2⟩ : e = .returned (.bool true) ∧ Inv w l n m B g g2 w')))
  have hll : (l.length : Int) ≤ 1000 := by have := Hl.out; omega
  clear HV Hl
  generalize aI l i = x at *
  generalize oI l i = p at *
  generalize nI l i = q at *
  generalize near n i = N0 at *
  have v1 : IntKind.i64.wrap ((N0 : Int) - p) = (N0 : Int) - p := by rw [IntKind.wrap_i64]; omega
  have v2 : (q == (N0 : Int) - p) = true := by simp; exact hq
  clear hq
  go_wp2_with fail
  go_region_held3 (fun w' => w'.cell? ⟨B, 0, none⟩ = some (.int .i64 n) ∧ w'.cell? ⟨B, 1, none⟩ = some (.slice (some ⟨g, 0, none⟩) m m) ∧ w'.cell? ⟨B, 2, none⟩ = some (.slice (some ⟨g2, 0, none⟩) m m)) (first | exact ⟨j0, j1, j2⟩ | go_keep)
    (first
      | (go_at_call 10; refine (HB.out _ ?_).mono ?_; (first | assumption | exact J0); rintro e w3 ⟨A1, c1, A2, c2, rfl, hI3, J3⟩; have k0 := J3.c0; have k1 := J3.c1; have k2 := J3.c2)
      | (go_at_call 9; refine (HS.out _ _ _ _ _ hI3 ?_).mono ?_; (first | assumption | exact J0); rintro e w3 ⟨rfl, J3⟩; have k0 := J3.c0; have k1 := J3.c1; have k2 := J3.c2)
      | (go_at_call 11; refine (HT.out _ ?_).mono ?_; (first | assumption | exact J0); rintro e w3 ⟨rfl, J3⟩; have k0 := J3.c0; have k1 := J3.c1; have k2 := J3.c2)
      | (go_at_call 12; refine (HO.out _ ?_).mono ?_; (first | assumption | exact J0); rintro e w3 ⟨rfl, J3⟩; have k0 := J3.c0; have k1 := J3.c1; have k2 := J3.c2)
      | (go_at_call 13; refine (HP.out _ ?_).mono ?_; (first | assumption | exact J0); rintro e w3 ⟨rfl, J3⟩; have k0 := J3.c0; have k1 := J3.c1; have k2 := J3.c2)
      | (go_at_call 14; refine (HN.out _ ?_).mono ?_; (first | assumption | exact J0); rintro e w3 ⟨rfl, J3⟩; have k0 := J3.c0; have k1 := J3.c1; have k2 := J3.c2)
      | (go_at_call 15; refine (HF.out _ ?_).mono ?_; (first | assumption | exact J0); rintro e w3 ⟨rfl, J3⟩; have k0 := J3.c0; have k1 := J3.c1; have k2 := J3.c2)
      | (go_at_call 6; refine (HM.out _ ?_).mono ?_; (first | assumption | exact J0); rintro e w3 ⟨rfl, J3⟩; have k0 := J3.c0; have k1 := J3.c1; have k2 := J3.c2))
  clear v1 v2 HB HS HT HO HP HN HF HM
  have hold := J3.old
  go_wp2
  go_ret
  exact ⟨rfl, hold⟩

theorem bitsTells_any (A : Option Addr) (n c : Nat) (l : List Bool) (i k : Int) (w : World) (hA : Row w w.heap.size A n (fun k => .bool (l.getD k false))) (hl : n = l.length)
    (hi1 : -9223372036854775808 ≤ i) (hi2 : i ≤ 9223372036854775807) (hk2 : k ≤ 9223372036854775807) :
    Calls Try.prog 3 #[.slice A n c, .int .i64 i, .int .i64 k] w fun e w' => e = .returned (.bool true) ∧ Below w.heap.size w w' := by
  by_cases h : 1000 < n
  · exact bitsTells_large A n c i k w h
  · exact bitsTells_small A n c l i k w hA hl (by omega) hi1 hi2 hk2

end Go.Proofs.Ytpdeeembhiiedaa
