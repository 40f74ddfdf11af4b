/- The walk of the law BitsFind. -/
import Derived.Test.YtpdeeembhiiedaaBx
import Derived.Deep.RegionHeld3
namespace Go.Proofs.Ytpdeeembhiiedaa
open Go.RowKit
attribute [local irreducible] Bt.pop Bt.popF oI nI aI

set_option maxHeartbeats 1000000 in
theorem bitsFind_large (A : Option Addr) (n c : Nat) (w : World) (hn : 1000 < n) :
    Calls Try.prog 5 #[.slice A n c] w fun e w' => e = .returned (.bool true) ∧ Below w.heap.size w w' := by
  go_enter Try.func5, Try.ntmps5
  go_wp2_with fail
  refine (madeK_any _).mono ?_
  rintro e w' ⟨rfl, hb⟩
  go_wp2
  go_ret
  exact ⟨rfl, hb⟩

/-- what the first loop finds -/
theorem find_facts (l : List Bool) (k : Nat) (v : Int) (hk : (k : Int) < oI l l.length) (hv : FindIs l k v) : aI l v = true ∧ oI l v = k := by
  have e : oI l l.length = Bt.ones l := by unfold oI; rw [Int.toNat_natCast, List.take_length]
  rw [e] at hk
  rcases hv with ⟨rfl, h | h⟩ | ⟨i, rfl, h1, h2⟩
  · omega
  · omega
  · unfold aI oI
    rw [Int.toNat_natCast]
    exact ⟨by simp at h1; simp [h1], h2⟩
theorem oI_bound (l : List Bool) : 0 ≤ oI l l.length ∧ oI l l.length ≤ l.length := by
  have := Bt.ones_le (l.take l.length)
  rw [List.length_take] at this
  unfold oI
  rw [Int.toNat_natCast]; omega

set_option maxHeartbeats 2000000 in
theorem bitsFind_small (A : Option Addr) (n c : Nat) (l : List Bool) (w : World) (hA : Row w w.heap.size A n (fun k => .bool (l.getD k false))) (hl : n = l.length) (hn : n ≤ 1000) :
    Calls Try.prog 5 #[.slice A n c] w fun e w' => e = .returned (.bool true) ∧ Below w.heap.size w w' := by
  have Hl := Lib.hid hl
  have hob := oI_bound l
  have Hff := Lib.hid (find_facts l)
  rw [← hl] at hob Hff
  clear hl
  generalize hT : oI l n = T at *
  have HT := Lib.hid hT
  clear hT
  obtain ⟨hT0, hT1⟩ := hob
  have hd : decide (1000 < (n : Int)) = false := by simp; omega
  go_enter Try.func5, Try.ntmps5
  go_wp2_with fail
  refine (make_any _ _ _ l _ hA Hl.out (by omega)).mono ?_
  rintro e w1 ⟨g, g2, rfl, hI, hb⟩
  have J := Inv.start (t := 27) hI hb Hl.out (by rw [← Hl.out]) (show n ≤ 140737488355328 by omega)
  generalize n / 64 + 1 = m at J ⊢
  clear hI hb
  go_wp2_with fail
  generalize hW : w1.alloc _ = W1 at J ⊢
  clear hW
  generalize w1.heap.size = B at J ⊢
  refine (J.ones _).mono ?_
  rintro e w2 ⟨rfl, J2⟩
  rw [HT.out]
  clear J
  go_wp2_with fail
  go_loopw [19] (fun s wr => ∃ k : Nat, s = .int .i64 k ∧ (k : Int) ≤ T ∧ Inv w l n m B g g2 wr) (fun s _ => (T - intOf s).toNat)
  case atStart => exact ⟨0, rfl, hT0, J2⟩
  case round =>
    clear J2
    obtain ⟨k, rfl, hk, J⟩ := hrel
    have j0 := J.c0
    have j1 := J.c1
    have j2 := J.c2
    by_cases hlt : (k : Int) < T
    · go_wp2_with fail
      refine (J.find _ (by omega)).mono ?_
      rintro e w3 ⟨v, rfl, hv, J3⟩
      obtain ⟨f1, f2⟩ := Hff.out k v hlt hv
      have F1 := Lib.hid f1
      have F2 := Lib.hid f2
      clear j0 j1 j2 J hv f1 f2
      have j0 := J3.c0
      have j1 := J3.c1
      have j2 := J3.c2
      go_wp2_with fail
      refine (J3.at_ _).mono ?_
      rintro e w4 ⟨rfl, J4⟩
      rw [F1.out]
      clear j0 j1 j2 J3
      have j0 := J4.c0
      have j1 := J4.c1
      have j2 := J4.c2
      go_wp2_with fail
      refine (J4.ones _).mono ?_
      rintro e w5 ⟨rfl, J5⟩
      rw [F2.out]
      clear j0 j1 j2 J4
      have hne : ((k : Int) != (k : Int)) = false := by simp
      go_wp2
      go_roundw
      case rel => exact ⟨k + 1, by go_num, by omega, J5⟩
      case measure => simp [intOf]; omega
    · go_wp2_with fail
      clear Hff
      go_loopw [39] (fun s wr => ∃ i : Nat, s = .int .i64 i ∧ i ≤ n ∧ Inv w l n m B g g2 wr) (fun s _ => n - (intOf s).toNat)
      case atStart => exact ⟨0, rfl, by omega, J⟩
      case round =>
        clear J j0 j1 j2
        obtain ⟨i, rfl, hi, J⟩ := hrel
        have j0 := J.c0
        have j1 := J.c1
        have j2 := J.c2
        by_cases hin : i < n
        · obtain ⟨b, o, rfl, hbb, hc⟩ := hA (by omega)
          have hc1 : wr.cell? ⟨b, o + i, none⟩ = some (.bool (l.getD i false)) := (J.old.cell (p := ⟨b, o + i, none⟩) hbb).trans (hc i hin)
          clear hc
          obtain ⟨s1, s2, s3, s4, s5, s6, s7⟩ := step_facts l i (by have := Hl.out; omega)
          clear HT
          have v1 : IntKind.i64.wrap ((i : Int) + 1) = (i : Int) + 1 := by rw [IntKind.wrap_i64]; omega
          have v2 : IntKind.i64.wrap (nI l i + 1) = nI l i + 1 := by rw [IntKind.wrap_i64]; omega
          have v3 : IntKind.i64.wrap (oI l i + 1) = oI l i + 1 := by rw [IntKind.wrap_i64]; omega
          have v4 : IntKind.i64.wrap (oI l i) = oI l i := by rw [IntKind.wrap_i64]; omega
          have v5 : IntKind.i64.wrap (nI l i) = nI l i := by rw [IntKind.wrap_i64]; omega
          cases hx : l.getD i false
          · rw [hx] at hc1 s1 s2 s3
            have t2 : (oI l (i + 1) != oI l i) = false := by rw [s2]; simp
            have t3 : (nI l (i + 1) != nI l i + 1) = false := by rw [s3]; simp
            have HA1 := Lib.hid (fun W (h : Inv w l n m B g g2 W) => s1 ▸ h.at_ i)
            have HO := Lib.hid (fun W x (h : Inv w l n m B g g2 W) => h.ones x)
            have HN := Lib.hid (fun W x (h : Inv w l n m B g g2 W) => h.noughts x)
            have J0 := J.drew
            clear hx s1 s2 s3
            go_wp2_with fail
            go_region_held3 (fun w' => w'.cell? ⟨B, 0, none⟩ = some (.int .i64 n) ∧ w'.cell? ⟨B, 1, none⟩ = some (.slice (some ⟨g, 0, none⟩) m m) ∧ w'.cell? ⟨B, 2, none⟩ = some (.slice (some ⟨g2, 0, none⟩) m m)) (first | exact ⟨j0, j1, j2⟩ | go_keep)
              (first
                | (go_at_call 11; refine (HA1.out _ ?_).mono ?_; (first | assumption | exact J.drew); rintro e w3 ⟨rfl, J3⟩; have k0 := J3.c0; have k1 := J3.c1; have k2 := J3.c2)
                | (go_at_call 12; refine (HO.out _ _ ?_).mono ?_; (first | assumption | exact J.drew); rintro e w3 ⟨rfl, J3⟩; have k0 := J3.c0; have k1 := J3.c1; have k2 := J3.c2)
                | (go_at_call 14; refine (HN.out _ _ ?_).mono ?_; (first | assumption | exact J.drew); rintro e w3 ⟨rfl, J3⟩; have k0 := J3.c0; have k1 := J3.c1; have k2 := J3.c2))
            clear v1 v2 v3 v4 v5 t2 t3 HA1 HO HN
            go_wp2
            go_roundw
            case rel => exact ⟨i + 1, by go_num, by omega, by assumption⟩
            case measure => simp [intOf]; omega
          · rw [hx] at hc1 s1 s2 s3
            have t2 : (oI l (i + 1) != oI l i + 1) = false := by rw [s2]; simp
            have t3 : (nI l (i + 1) != nI l i) = false := by rw [s3]; simp
            have HA1 := Lib.hid (fun W (h : Inv w l n m B g g2 W) => s1 ▸ h.at_ i)
            have HO := Lib.hid (fun W x (h : Inv w l n m B g g2 W) => h.ones x)
            have HN := Lib.hid (fun W x (h : Inv w l n m B g g2 W) => h.noughts x)
            have J0 := J.drew
            clear hx s1 s2 s3
            go_wp2_with fail
            go_region_held3 (fun w' => w'.cell? ⟨B, 0, none⟩ = some (.int .i64 n) ∧ w'.cell? ⟨B, 1, none⟩ = some (.slice (some ⟨g, 0, none⟩) m m) ∧ w'.cell? ⟨B, 2, none⟩ = some (.slice (some ⟨g2, 0, none⟩) m m)) (first | exact ⟨j0, j1, j2⟩ | go_keep)
              (first
                | (go_at_call 11; refine (HA1.out _ ?_).mono ?_; (first | assumption | exact J.drew); rintro e w3 ⟨rfl, J3⟩; have k0 := J3.c0; have k1 := J3.c1; have k2 := J3.c2)
                | (go_at_call 12; refine (HO.out _ _ ?_).mono ?_; (first | assumption | exact J.drew); rintro e w3 ⟨rfl, J3⟩; have k0 := J3.c0; have k1 := J3.c1; have k2 := J3.c2)
                | (go_at_call 14; refine (HN.out _ _ ?_).mono ?_; (first | assumption | exact J.drew); rintro e w3 ⟨rfl, J3⟩; have k0 := J3.c0; have k1 := J3.c1; have k2 := J3.c2))
            clear v1 v2 v3 v4 v5 t2 t3 HA1 HO HN
            go_wp2
            go_roundw
            case rel => exact ⟨i + 1, by go_num, by omega, by assumption⟩
            case measure => simp [intOf]; omega
        · go_wp2_with fail
          refine J.good.mono ?_
          rintro e w3 ⟨rfl, J3⟩
          go_wp2_with fail
          refine (madeK_any _).mono ?_
          rintro e w4 ⟨rfl, hb4⟩
          have J4 := J3.step hb4
          clear J J3 hb4 j0 j1 j2
          go_wp2
          go_ret
          exact ⟨rfl, J4.old⟩

theorem bitsFind_any (A : Option Addr) (n c : Nat) (l : List Bool) (w : World) (hA : Row w w.heap.size A n (fun k => .bool (l.getD k false))) (hl : n = l.length) :
    Calls Try.prog 5 #[.slice A n c] w fun e w' => e = .returned (.bool true) ∧ Below w.heap.size w w' := by
  by_cases h : 1000 < n
  · exact bitsFind_large A n c w h
  · exact bitsFind_small A n c l w hA hl (by omega)

end Go.Proofs.Ytpdeeembhiiedaa
