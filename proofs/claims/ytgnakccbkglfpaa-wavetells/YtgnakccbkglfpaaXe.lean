/- The walk of the law WaveTells, where a wave is made. -/
import Derived.Test.YtgnakccbkglfpaaXd
namespace Go.Proofs.Ytgnakccbkglfpaa
open Go.RowKit
attribute [local irreducible] Bt.pop Bt.popF

/-- is there such a place? -/
def inN (i : Int) (n : Nat) : Bool := decide (0 ≤ i ∧ i < (n : Int))
theorem inN_yes {i : Int} {n : Nat} (h : 0 ≤ i ∧ i < (n : Int)) : inN i n = true := by unfold inN; simp; exact h
theorem inN_no {i : Int} {n : Nat} (h : ¬ (0 ≤ i ∧ i < (n : Int))) : inN i n = false := by unfold inN; simp at h ⊢; exact h
theorem inN_of {i : Int} {n : Nat} (h : 0 ≤ i) : decide (i < (n : Int)) = inN i n := by unfold inN; simp [h]

/-- the wave, and what else is kept: the list itself -/
structure LT (w : World) (B N : Nat) (A A' : Option Addr) (d c : Nat) (l : List Nat) (W : World) : Prop where
  lw : LW w B N A' d c l W
  row : NRow W W.heap.size A l
theorem LT.on {w : World} {B N : Nat} {A A' : Option Addr} {d c : Nat} {l : List Nat} {W W' : World} (h : LT w B N A A' d c l W) (hb : Below W.heap.size W W') : LT w B N A A' d c l W' := ⟨h.lw.on hb, h.row.on hb⟩

set_option maxRecDepth 100000 in
set_option maxHeartbeats 8000000 in
theorem waveTells_yes (A : Option Addr) (c : Nat) (l : List Nat) (d : Nat) (x i k : Int) (w : World) (hr : NRow w w.heap.size A l) (hl : l.length ≤ 200) (h1 : 1 ≤ d) (h11 : d ≤ 11) (hf : ∀ n ∈ l, n < 2 ^ d)
    (hi1 : -9223372036854775808 ≤ i) (hi2 : i ≤ 9223372036854775807) (hk1 : -9223372036854775808 ≤ k) (hk2 : k ≤ 9223372036854775807) :
    Calls Try.prog 8 #[.slice A l.length c, .int .i64 d, .int .i64 x, .int .i64 i, .int .i64 k] w fun e w' => e = .returned (.bool true) ∧ Below w.heap.size w w' := by
  have hF : fitsI (l.map fun (n : Nat) => (n : Int)) d = true := by
    unfold fitsI
    rw [deepOk_yes d (by omega) (by omega), Int.toNat_natCast, show (2 : Int) ^ d = ((2 ^ d : Nat) : Int) from by simp, insB_of _ l hf]; rfl
  have HF := Lib.hid (fun (W : World) (hb : NRow W W.heap.size A l) => fits_any A c (l.map fun (n : Nat) => (n : Int)) d W hb.ints (by rw [List.length_map]; omega))
  rw [hF, List.length_map] at HF
  have HR : Hid (Row w w.heap.size A l.length (fun i => .int .i64 ((l.getD i 0 : Nat) : Int))) := Lib.hid hr
  have HMk := Lib.hid (fun (W : World) (A' : Option Addr) (c' : Nat) (h : Row W W.heap.size A' l.length (fun i => .int .i64 ((l.getD i 0 : Nat) : Int))) => make_wave A' c' l d W h h1 (by omega) hf (by omega))
  have hz : ¬ (200 : Int) < (l.length : Int) := by omega
  have hz2 : ¬ (11 : Int) < (d : Int) := by omega
  have hmx : l.length ≤ maxLen := by unfold maxLen; omega
  have HNR := Lib.hid hr
  have hK : (kindsN l d i k).length ≤ 65536 := Nat.le_trans (Wv.kinds_len l _ _ _) (Nat.le_trans (Nat.pow_le_pow_right (by omega) (show d ≤ 16 by omega)) (by decide))
  have HAtY : Hid (∀ I : Nat, (I : Int) < (l.length : Int) → atI l I = ((l.getD I 0 : Nat) : Int)) := Lib.hid fun I hI => by unfold atI; rw [if_pos ⟨by omega, hI⟩, Int.toNat_natCast]
  have HAtN : Hid (¬ (0 ≤ i ∧ i < (l.length : Int)) → atI l i = -1) := Lib.hid fun h => by unfold atI; rw [if_neg h]
  have HKI := Lib.hid (fun (W : World) (h : NRow W W.heap.size A l) => kindsIn_any A c l d i k W h hl hf h11)
  have HCI := Lib.hid (fun (W : World) (h : NRow W W.heap.size A l) => countIn_any A c l x i W h (by omega))
  have HWO := Lib.hid (fun (W : World) (h : NRow W W.heap.size A l) => waveOf_any A c l d W h h1 (by omega) hf (by omega))
  clear hF hr hf
  generalize hN : l.length = N at *
  have HN := Lib.hid hN
  clear hN
  go_enter Try.func8, Try.ntmps8
  go_wp2_with (at_builtin; refine wpList_copy_nil _ rfl _ _ 25 rfl 3 (.int .i64 0) 8 Try.underlying25 infoInt4 rfl A N c (fun i => .int .i64 ((l.getD i 0 : Nat) : Int)) rfl rfl HR.out (fun _ _ => rfl) hmx (by omega) ?_; intro A1 c1 w1 hr1 hb1)
  with_reducible refine (HMk.out _ _ _ hr1).mono ?_
  rintro e w2 ⟨A', c', rfl, hcap, hWave, hb2⟩
  have J : LT w w2.heap.size N A A' d c' l (w2.alloc (.cells #[.int .i64 N, .int .i64 d, .slice A' d c'] 45)) := by
    have hb3 := hb1.trans (hb2.mono hb1.size)
    have L := LW.start hWave HN.out.symm hcap hb3 45
    exact ⟨L, HNR.out.on L.old⟩
  clear HMk hr1 hb1 hb2 hcap hWave HR HNR
  go_wp2_with fail
  with_reducible refine (HF.out _ J.row).mono ?_
  rintro e w3 ⟨rfl, rfl⟩
  clear HF
  go_upto_region 9 with fail
  generalize hW : w2.alloc _ = W1 at J ⊢
  clear hW
  generalize w2.heap.size = B at J ⊢
  go_cut [60] (fun s wx => s = .bool (inN i N) ∧ W1 = wx)
  case first =>
    by_cases h0 : 0 ≤ i
    · have H := Lib.hid (inN_of (n := N) h0)
      go_wp2_with fail
      go_meet
      exact ⟨by rw [← H.out], rfl⟩
    · have H := Lib.hid (inN_no (n := N) (fun h => h0 h.1))
      go_wp2_with fail
      go_meet
      exact ⟨by rw [H.out], rfl⟩
  case rest =>
  obtain ⟨rfl, rfl⟩ := hcut
  go_upto_if 60 with fail
  go_cut [13] (fun s wx => s = .int .i64 (atI l i) ∧ W1 = wx)
  case first =>
    by_cases h0 : 0 ≤ i ∧ i < (N : Int)
    · obtain ⟨I, rfl⟩ := Int.eq_ofNat_of_zero_le h0.1
      have hd2 := inN_yes h0
      obtain ⟨b, o, rfl, hbb, hc⟩ := J.row (by have := HN.out; omega)
      have hc1 : W1.cell? ⟨b, o + I, none⟩ = some (.int .i64 ((l.getD I 0 : Nat) : Int)) := hc I (by have := HN.out; omega)
      have H := Lib.hid (HAtY.out I h0.2)
      clear hc HKI HCI HWO
      have hI : (I : Int) < (N : Int) := h0.2
      clear h0
      generalize l.getD I 0 = y at hc1 H
      rw [hd2]
      clear hd2
      go_wp2_with fail
      go_meet
      exact ⟨by rw [H.out], rfl⟩
    · have hd2 := inN_no h0
      have H := Lib.hid (HAtN.out h0)
      clear h0
      rw [hd2]
      clear hd2
      go_wp2_with fail
      go_meet
      exact ⟨by rw [H.out], rfl⟩
  case rest =>
  obtain ⟨rfl, rfl⟩ := hcut
  clear HAtY HAtN
  have HSp := Lib.hid (fun W (h : LT w B N A A' d c' l W) => spoilt_any h.lw.wave c' h.lw.cap)
  rw [HN.out] at HSp
  have j0 := J.lw.c0
  have j1 := J.lw.c1
  have j2 := J.lw.c2
  go_wp2_with fail
  with_reducible refine (HSp.out _ J).mono ?_
  rintro e w4 ⟨rfl, hb4⟩
  have J4 := J.on hb4
  clear J hb4 j0 j1 j2 HSp
  have H1 := Lib.hid (fun W (h : LT w B N A A' d c' l W) => (HWO.out W h.row).mono fun e w' hh => (⟨hh.choose, hh.choose_spec.choose, hh.choose_spec.choose_spec.1, hh.choose_spec.choose_spec.2.2.1, h.on hh.choose_spec.choose_spec.2.2.2⟩ : ∃ A2 c2, e = .returned (.agg #[.int .i64 N, .int .i64 d, .slice A2 d c2]) ∧ Wave w' A2 d l ∧ LT w B N A A' d c' l w'))
  have H2 := Lib.hid (fun W A2 c2 (hv : Wave W A2 d l) (h : LT w B N A A' d c' l W) => (sameWave_any A' A2 d c' c2 N l W h.lw.wave hv HN.out.symm).mono fun e w' hh => (⟨hh.1, h.on hh.2⟩ : e = .returned (.bool true) ∧ LT w B N A A' d c' l w'))
  have H3 : Hid (∀ W, LT w B N A A' d c' l W → Calls Try.prog 40 #[.agg #[.int .i64 N, .int .i64 d, .slice A' d c']] W fun e w' => e = .returned (.bool true) ∧ LT w B N A A' d c' l w') := Lib.hid fun W h => by
    have := good_wave h.lw.wave c'
    rw [HN.out] at this
    exact this.mono fun e w' hh => ⟨hh.1, h.on hh.2⟩
  have H4 : Hid (∀ W, LT w B N A A' d c' l W → Calls Try.prog 41 #[.agg #[.int .i64 N, .int .i64 d, .slice A' d c'], .int .i64 i] W fun e w' => e = .returned (.int .i64 (atI l i)) ∧ LT w B N A A' d c' l w') := Lib.hid fun W h => by
    have := at_wave h.lw.wave c' i
    rw [HN.out] at this
    exact this.mono fun e w' hh => ⟨hh.1, h.on hh.2⟩
  have H5 : Hid (∀ W, LT w B N A A' d c' l W → Calls Try.prog 42 #[.agg #[.int .i64 N, .int .i64 d, .slice A' d c'], .int .i64 x, .int .i64 i] W fun e w' => e = .returned (.int .i64 (countI l x i)) ∧ LT w B N A A' d c' l w') := Lib.hid fun W h => by
    have := count_wave h.lw.wave c' x i hi1 hi2
    rw [HN.out] at this
    exact this.mono fun e w' hh => ⟨hh.1, h.on hh.2⟩
  have H6 := Lib.hid (fun W (h : LT w B N A A' d c' l W) => (HCI.out W h.row).mono fun e w' hh => (⟨hh.1, hh.2 ▸ h⟩ : e = .returned (.int .i64 (countI l x i)) ∧ LT w B N A A' d c' l w'))
  have H7 : Hid (∀ W, LT w B N A A' d c' l W → Calls Try.prog 44 #[.agg #[.int .i64 N, .int .i64 d, .slice A' d c'], .int .i64 i, .int .i64 k] W fun e w' => ∃ X cx, e = .returned (.slice X (kindsN l d i k).length cx) ∧ NRow w' w'.heap.size X (kindsN l d i k) ∧ LT w B N A A' d c' l w') := Lib.hid fun W h => by
    refine (kinds_wave h.lw.wave c' h.lw.cap i k hi1 hi2 hk1 hk2).mono ?_ |> fun hh => by rw [HN.out] at hh; exact hh
    rintro e w' ⟨v, rfl, hO⟩
    obtain ⟨X, cx, rfl, _⟩ := own_slice hO.own
    obtain ⟨_, hr⟩ := own_row (0 : Int) hO.own
    exact ⟨X, cx, by rw [up_len]; rfl, NRow.of_ints hr, h.on hO.old⟩
  have H8 := Lib.hid (fun W X (hX : NRow W W.heap.size X (kindsN l d i k)) (h : LT w B N A A' d c' l W) => (HKI.out W h.row).mono fun e w' hh => (⟨hh.choose, hh.choose_spec.choose, hh.choose_spec.choose_spec.1, hX.on hh.choose_spec.choose_spec.2.2, hh.choose_spec.choose_spec.2.1, h.on hh.choose_spec.choose_spec.2.2⟩ : ∃ Y cy, e = .returned (.slice Y (kindsN l d i k).length cy) ∧ NRow w' w'.heap.size X (kindsN l d i k) ∧ NRow w' w'.heap.size Y (kindsN l d i k) ∧ LT w B N A A' d c' l w'))
  have H9 := Lib.hid (fun W X cx Y cy (hX : NRow W W.heap.size X (kindsN l d i k)) (hY : NRow W W.heap.size Y (kindsN l d i k)) (h : LT w B N A A' d c' l W) => (sameInts_nat X Y cx cy (kindsN l d i k) W hX hY hK).mono fun e w' hh => (⟨hh.1, h.on hh.2⟩ : e = .returned (.bool true) ∧ LT w B N A A' d c' l w'))
  have H0 := Lib.hid (fun W (h : LT w B N A A' d c' l W) => (wavesL_any W).mono fun e w' hh => (⟨hh.1, h.on hh.2⟩ : e = .returned (.bool true) ∧ LT w B N A A' d c' l w'))
  clear HKI HCI HWO
  generalize kindsN l d i k = KK at *
  generalize KK.length = nk at *
  generalize atI l i = a0 at *
  generalize countI l x i = c0 at *
  have t1 : (a0 == a0) = true := by simp
  have t2 : (c0 == c0) = true := by simp
  have j0 := J4.lw.c0
  have j1 := J4.lw.c1
  have j2 := J4.lw.c2
  have J5 := J4.on (Below.refl _ _).drew
  clear J4
  go_wp2_with fail
  go_region_held3 (fun w' => w'.cell? ⟨B, 0, none⟩ = some (.int .i64 N) ∧ w'.cell? ⟨B, 1, none⟩ = some (.int .i64 d) ∧ w'.cell? ⟨B, 2, none⟩ = some (.slice A' d c')) (first | exact ⟨j0, j1, j2⟩ | exact ⟨J6.lw.c0, J6.lw.c1, J6.lw.c2⟩ | go_keep)
    (first
      | (go_at_call 39; (with_reducible refine (H1.out _ ?_).mono ?_); (first | assumption | exact J5); rintro e w5 ⟨A2, c2, rfl, hv, J6⟩)
      | (go_at_call 38; (with_reducible refine (H2.out _ _ _ hv ?_).mono ?_); (first | assumption | exact J5); rintro e w5 ⟨rfl, J6⟩)
      | (go_at_call 40; (with_reducible refine (H3.out _ ?_).mono ?_); (first | assumption | exact J5); rintro e w5 ⟨rfl, J6⟩)
      | (go_at_call 41; (with_reducible refine (H4.out _ ?_).mono ?_); (first | assumption | exact J5); rintro e w5 ⟨rfl, J6⟩)
      | (go_at_call 42; (with_reducible refine (H5.out _ ?_).mono ?_); (first | assumption | exact J5); rintro e w5 ⟨rfl, J6⟩)
      | (go_at_call 43; (with_reducible refine (H6.out _ ?_).mono ?_); (first | assumption | exact J5); rintro e w5 ⟨rfl, J6⟩)
      | (go_at_call 44; (with_reducible refine (H7.out _ ?_).mono ?_); (first | assumption | exact J5); rintro e w5 ⟨X, cx, rfl, hX, J6⟩)
      | (go_at_call 45; (with_reducible refine (H8.out _ _ hX ?_).mono ?_); (first | assumption | exact J5); rintro e w5 ⟨Y, cy, rfl, hX2, hY, J6⟩)
      | (go_at_call 25; (with_reducible refine (H9.out _ _ _ _ _ hX2 hY ?_).mono ?_); (first | assumption | exact J5); rintro e w5 ⟨rfl, J6⟩)
      | (go_at_call 35; (with_reducible refine (H0.out _ ?_).mono ?_); (first | assumption | exact J5); rintro e w5 ⟨rfl, J6⟩))
  clear t1 t2 H0 H1 H2 H3 H4 H5 H6 H7 H8 H9
  have hold := J6.lw.old
  go_wp2
  go_ret
  exact ⟨rfl, hold⟩

end Go.Proofs.Ytgnakccbkglfpaa
