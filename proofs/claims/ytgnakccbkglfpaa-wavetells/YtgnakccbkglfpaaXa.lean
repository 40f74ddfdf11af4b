/- The reference's SameWave of two waves of one list. -/
import Derived.Test.YtgnakccbkglfpaaRb
import Derived.Test.YtgnakccbkglfpaaWu
namespace Go.Proofs.Ytgnakccbkglfpaa
open Go.RowKit
attribute [local irreducible] Bt.pop Bt.popF

theorem sameBits_made (bs : List Bool) (N m : Nat) (A1 A2 B1 B2 : Option Addr) (c1 c2 c3 c4 : Nat) (w : World) (hI : IsBits w w.heap.size A1 A2 bs) (hJ : IsBits w w.heap.size B1 B2 bs) (hN : N = bs.length) (hm : m = bs.length / 64 + 1) (hs : bs.length ≤ 17592186044416) :
    Calls Try.prog 13 #[.agg #[.int .i64 N, .slice A1 m c1, .slice A2 m c2], .agg #[.int .i64 N, .slice B1 m c3, .slice B2 m c4]] w fun e w' => e = .returned (.bool true) ∧ Below w.heap.size w w' := by
  subst hN hm
  exact (sameBits_any _ _ _ _ _ _ _ _ _ _ _ _ _ _ (Bt.part bs) (Bt.part bs) (fun k => (Bt.ahd bs k : Nat)) (fun k => (Bt.ahd bs k : Nat)) w hI.parts hI.ahead hJ.parts hJ.ahead (by omega) (by omega)).mono
    fun _ _ ⟨r, he, hr, hb⟩ => ⟨he.trans (ret_bool (hr.2 ⟨rfl, rfl, ⟨rfl, fun _ _ => rfl⟩, fun _ _ => rfl⟩)), hb⟩

/-- two waves in two blocks of a function's own -/
structure TW (w : World) (N : Nat) (A B : Option Addr) (d c e : Nat) (l : List Nat) (W : World) : Prop where
  a0 : W.cell? ⟨w.heap.size, 0, none⟩ = some (.int .i64 N)
  a1 : W.cell? ⟨w.heap.size, 1, none⟩ = some (.int .i64 d)
  a2 : W.cell? ⟨w.heap.size, 2, none⟩ = some (.slice A d c)
  b0 : W.cell? ⟨w.heap.size + 1, 0, none⟩ = some (.int .i64 N)
  b1 : W.cell? ⟨w.heap.size + 1, 1, none⟩ = some (.int .i64 d)
  b2 : W.cell? ⟨w.heap.size + 1, 2, none⟩ = some (.slice B d e)
  wa : Wave W A d l
  wb : Wave W B d l
  big : w.heap.size + 2 ≤ W.heap.size
  old : Below w.heap.size w W
theorem TW.on {w : World} {N : Nat} {A B : Option Addr} {d c e : Nat} {l : List Nat} {W W' : World} (h : TW w N A B d c e l W) (hb : Below W.heap.size W W') : TW w N A B d c e l W' := by
  have := h.big
  have g : ∀ x y, x < w.heap.size + 2 → W'.cell? ⟨x, y, none⟩ = W.cell? ⟨x, y, none⟩ := fun x y hx => hb.cell (p := ⟨x, y, none⟩) (by simp; omega)
  exact ⟨(g _ _ (by omega)).trans h.a0, (g _ _ (by omega)).trans h.a1, (g _ _ (by omega)).trans h.a2, (g _ _ (by omega)).trans h.b0, (g _ _ (by omega)).trans h.b1, (g _ _ (by omega)).trans h.b2, h.wa.on hb, h.wb.on hb, Nat.le_trans h.big hb.size, h.old.trans (hb.mono h.old.size)⟩

set_option maxHeartbeats 2000000 in
theorem sameWave_any (A B : Option Addr) (d c e N : Nat) (l : List Nat) (w : World) (hA : Wave w A d l) (hB : Wave w B d l) (hN : N = l.length) :
    Calls Try.prog 38 #[.agg #[.int .i64 N, .int .i64 d, .slice A d c], .agg #[.int .i64 N, .int .i64 d, .slice B d e]] w fun x w' => x = .returned (.bool true) ∧ Below w.heap.size w w' := by
  have J0 : TW w N A B d c e l ((w.alloc (.cells #[.int .i64 N, .int .i64 d, .slice A d c] 45)).alloc (.cells #[.int .i64 N, .int .i64 d, .slice B d e] 45)) := by
    have hb : Below w.heap.size w ((w.alloc (.cells #[.int .i64 N, .int .i64 d, .slice A d c] 45)).alloc (.cells #[.int .i64 N, .int .i64 d, .slice B d e] 45)) := ((Below.refl _ _).alloc (Nat.le_refl _) _).alloc (by simp) _
    exact ⟨by simp, by simp, by simp, by simp, by simp, by simp, hA.on hb, hB.on hb, by simp, hb⟩
  have h16 := hA.d16
  have hsm := hA.small
  have HL : Hid (∀ W, TW w N A B d c e l W → ∀ k, k < d → ∃ b1 o1 b2 o2 A1 c1 A2 c2 B1 c3 B2 c4, A = some ⟨b1, o1, none⟩ ∧ B = some ⟨b2, o2, none⟩ ∧ b1 < w.heap.size ∧ b2 < w.heap.size ∧
      (W.cell? ⟨b1, o1 + k * 3, none⟩ = some (.int .i64 N) ∧ W.cell? ⟨b1, o1 + k * 3 + 1, none⟩ = some (.slice A1 (N / 64 + 1) c1) ∧ W.cell? ⟨b1, o1 + k * 3 + 2, none⟩ = some (.slice A2 (N / 64 + 1) c2)) ∧
      (W.cell? ⟨b2, o2 + k * 3, none⟩ = some (.int .i64 N) ∧ W.cell? ⟨b2, o2 + k * 3 + 1, none⟩ = some (.slice B1 (N / 64 + 1) c3) ∧ W.cell? ⟨b2, o2 + k * 3 + 2, none⟩ = some (.slice B2 (N / 64 + 1) c4)) ∧
      ∀ V, Below W.heap.size W V → Calls Try.prog 13 #[.agg #[.int .i64 N, .slice A1 (N / 64 + 1) c1, .slice A2 (N / 64 + 1) c2], .agg #[.int .i64 N, .slice B1 (N / 64 + 1) c3, .slice B2 (N / 64 + 1) c4]] V fun x w' => x = .returned (.bool true) ∧ Below V.heap.size V w') := Lib.hid fun W hW k hk => by
    obtain ⟨b1, o1, eA, hl1, hc1⟩ := hA.level
    obtain ⟨b2, o2, eB, hl2, hc2⟩ := hB.level
    obtain ⟨⟨A1, c1, A2, c2, p1, p2, p3, p4⟩, hla⟩ := hc1 k hk
    obtain ⟨⟨B1, c3, B2, c4, q1, q2, q3, q4⟩, _⟩ := hc2 k hk
    rw [hla, ← hN] at p1 p2 p3 q1 q2 q3
    have hb := hW.old
    refine ⟨b1, o1, b2, o2, A1, c1, A2, c2, B1, c3, B2, c4, eA, eB, hl1, hl2, ⟨(hb.cell (p := ⟨b1, o1 + k * 3, none⟩) hl1).trans p1, (hb.cell (p := ⟨b1, o1 + k * 3 + 1, none⟩) hl1).trans p2, (hb.cell (p := ⟨b1, o1 + k * 3 + 2, none⟩) hl1).trans p3⟩,
      ⟨(hb.cell (p := ⟨b2, o2 + k * 3, none⟩) hl2).trans q1, (hb.cell (p := ⟨b2, o2 + k * 3 + 1, none⟩) hl2).trans q2, (hb.cell (p := ⟨b2, o2 + k * 3 + 2, none⟩) hl2).trans q3⟩, fun V hV => ?_⟩
    have hb2 := hb.trans (hV.mono hb.size)
    exact sameBits_made (Wv.lbits (d - 1 - k) (2 ^ k) l) N (N / 64 + 1) A1 A2 B1 B2 c1 c2 c3 c4 V ((p4.below hb2).more hb2.size) ((q4.below hb2).more hb2.size) (by rw [hla]; exact hN) (by rw [hla, ← hN]) (by omega)
  have t1 : ((N : Int) != (N : Int)) = false := by simp
  have t2 : ((d : Int) != (d : Int)) = false := by simp
  clear hA hB hN
  obtain ⟨V0, hV0⟩ : ∃ V0, V0 = ((w.alloc (.cells #[.int .i64 N, .int .i64 d, .slice A d c] 45)).alloc (.cells #[.int .i64 N, .int .i64 d, .slice B d e] 45)) := ⟨_, rfl⟩
  rw [← hV0] at J0
  have HV0 := Lib.hid hV0
  clear hV0
  go_enter Try.func38, Try.ntmps38
  go_upto_region 1 with fail
  rw [← HV0.out]
  have j0 := J0.a0
  have j1 := J0.a1
  have j2 := J0.a2
  have j3 := J0.b0
  have j4 := J0.b1
  have j5 := J0.b2
  clear HV0
  go_wp2
  go_loopw [30] (fun s W => ∃ k : Nat, k ≤ d ∧ s = .int .i64 k ∧ TW w N A B d c e l W) (fun s _ => d - (intOf s).toNat)
  case atStart => exact ⟨0, Nat.zero_le _, rfl, J0⟩
  case round =>
    clear J0 j0 j1 j2 j3 j4 j5 t1 t2
    obtain ⟨k, hk, rfl, J⟩ := hrel
    by_cases hlt : k < d
    · obtain ⟨b1, o1, b2, o2, A1, c1, A2, c2, B1, c3, B2, c4, rfl, rfl, _, _, ⟨p1, p2, p3⟩, ⟨q1, q2, q3⟩, hS⟩ := HL.out wr J k hlt
      have hlz : (k : Int) < (d : Int) := by omega
      have HS := Lib.hid (hS wr.drew (Below.refl _ _).drew)
      have HJ := Lib.hid (J.on (Below.refl _ _).drew)
      have j2 := J.a2
      have j5 := J.b2
      clear hS HL J
      generalize N / 64 + 1 = mp at *
      go_upto_region 6 with fail
      refine wp_region_takes 11 [0, 1, 2, 3, 4, 5, 6, 7, 8, 9] [10] (fun w' => w'.cell? ⟨w.heap.size, 2, none⟩ = some (.slice (some ⟨b1, o1, none⟩) d c) ∧ w'.cell? ⟨w.heap.size + 1, 2, none⟩ = some (.slice (some ⟨b2, o2, none⟩) d e) ∧ w'.cell? ⟨b1, o1 + k * 3, none⟩ = some (.int .i64 N) ∧ w'.cell? ⟨b1, o1 + k * 3 + 1, none⟩ = some (.slice A1 mp c1) ∧ w'.cell? ⟨b1, o1 + k * 3 + 2, none⟩ = some (.slice A2 mp c2) ∧
        w'.cell? ⟨b2, o2 + k * 3, none⟩ = some (.int .i64 N) ∧ w'.cell? ⟨b2, o2 + k * 3 + 1, none⟩ = some (.slice B1 mp c3) ∧ w'.cell? ⟨b2, o2 + k * 3 + 2, none⟩ = some (.slice B2 mp c4)) (by kernel_rfl) (by kernel_rfl) ⟨j2, j5, p1, p2, p3, q1, q2, q3⟩ ?_
      refine wpTakes_cons (v := ?_) _ at0 rfl ?_ ?_ ?_
      rotate_left 1
      · rintro W ⟨x0, x1, x2, x3, x4, x5, x6, x7⟩
        go_simp
        rfl
      · exact fun _ _ _ h => h
      simp only [Act.put, List.setIfInBounds_toArray, List.set_cons_zero, List.set_cons_succ]
      refine wpTakes_cons (v := ?_) _ at1 rfl ?_ ?_ ?_
      rotate_left 1
      · rintro W ⟨x0, x1, x2, x3, x4, x5, x6, x7⟩
        go_simp
        rfl
      · exact fun _ _ _ h => h
      simp only [Act.put, List.setIfInBounds_toArray, List.set_cons_zero, List.set_cons_succ]
      refine wpTakes_cons (v := ?_) _ at2 rfl ?_ ?_ ?_
      rotate_left 1
      · rintro W ⟨x0, x1, x2, x3, x4, x5, x6, x7⟩
        go_simp
        rfl
      · exact fun _ _ _ h => h
      simp only [Act.put, List.setIfInBounds_toArray, List.set_cons_zero, List.set_cons_succ]
      refine wpTakes_cons (v := ?_) _ at3 rfl ?_ ?_ ?_
      rotate_left 1
      · rintro W ⟨x0, x1, x2, x3, x4, x5, x6, x7⟩
        go_simp
        rfl
      · exact fun _ _ _ h => h
      simp only [Act.put, List.setIfInBounds_toArray, List.set_cons_zero, List.set_cons_succ]
      refine wpTakes_cons (v := ?_) _ at4 rfl ?_ ?_ ?_
      rotate_left 1
      · rintro W ⟨x0, x1, x2, x3, x4, x5, x6, x7⟩
        go_simp
        rfl
      · exact fun _ _ _ h => h
      simp only [Act.put, List.setIfInBounds_toArray, List.set_cons_zero, List.set_cons_succ]
      refine wpTakes_cons (v := ?_) _ at5 rfl ?_ ?_ ?_
      rotate_left 1
      · rintro W ⟨x0, x1, x2, x3, x4, x5, x6, x7⟩
        go_simp
        rfl
      · exact fun _ _ _ h => h
      simp only [Act.put, List.setIfInBounds_toArray, List.set_cons_zero, List.set_cons_succ]
      refine wpTakes_cons (v := ?_) _ at6 rfl ?_ ?_ ?_
      rotate_left 1
      · rintro W ⟨x0, x1, x2, x3, x4, x5, x6, x7⟩
        go_simp
        rfl
      · exact fun _ _ _ h => h
      simp only [Act.put, List.setIfInBounds_toArray, List.set_cons_zero, List.set_cons_succ]
      refine wpTakes_cons (v := ?_) _ at7 rfl ?_ ?_ ?_
      rotate_left 1
      · rintro W ⟨x0, x1, x2, x3, x4, x5, x6, x7⟩
        go_simp
        rfl
      · exact fun _ _ _ h => h
      simp only [Act.put, List.setIfInBounds_toArray, List.set_cons_zero, List.set_cons_succ]
      refine wpTakes_cons (v := ?_) _ at8 rfl ?_ ?_ ?_
      rotate_left 1
      · rintro W ⟨x0, x1, x2, x3, x4, x5, x6, x7⟩
        go_simp
        rfl
      · exact fun _ _ _ h => h
      simp only [Act.put, List.setIfInBounds_toArray, List.set_cons_zero, List.set_cons_succ]
      refine wpTakes_cons (v := ?_) _ at9 rfl ?_ ?_ ?_
      rotate_left 1
      · rintro W ⟨x0, x1, x2, x3, x4, x5, x6, x7⟩
        go_simp
        rfl
      · exact fun _ _ _ h => h
      simp only [Act.put, List.setIfInBounds_toArray, List.set_cons_zero, List.set_cons_succ]
      refine wpTakes_nil (wpCalls_cons _ at10 rfl fun K hK => ?_)
      go_simp
      go_at_call 13
      refine HS.out.mono ?_
      rintro x w3 ⟨rfl, hb3⟩
      have J3 := HJ.out.on hb3
      have keep : ∀ b o, b < wr.heap.size → w3.cell? ⟨b, o, none⟩ = wr.cell? ⟨b, o, none⟩ := fun b o hb => hb3.cell (p := ⟨b, o, none⟩) hb
      refine hK.out _ _ ⟨J3.a2, J3.b2, (keep _ _ (World.block_lt_of_cell? _ _ p1)).trans p1, (keep _ _ (World.block_lt_of_cell? _ _ p2)).trans p2, (keep _ _ (World.block_lt_of_cell? _ _ p3)).trans p3, (keep _ _ (World.block_lt_of_cell? _ _ q1)).trans q1, (keep _ _ (World.block_lt_of_cell? _ _ q2)).trans q2, (keep _ _ (World.block_lt_of_cell? _ _ q3)).trans q3⟩ (wpCalls_nil ?_)
      clear hK HS HJ keep hb3 p1 p2 p3 q1 q2 q3 j2 j5
      simp only [List.drop_succ_cons, List.drop_zero]
      go_wp2
      go_roundw
      case rel => exact ⟨k + 1, by omega, by go_num, J3⟩
      case measure => simp [intOf]; omega
    · have hold := J.old
      clear HL J
      go_wp2
      go_ret
      exact ⟨rfl, hold⟩

end Go.Proofs.Ytgnakccbkglfpaa
