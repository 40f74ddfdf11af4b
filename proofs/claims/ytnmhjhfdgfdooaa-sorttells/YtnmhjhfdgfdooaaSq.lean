/- What stands ahead, as the reference tells it. -/
import Derived.Test.YtnmhjhfdgfdooaaSp
namespace Go.Proofs.Ytnmhjhfdgfdooaa
open Go.RowKit

set_option maxHeartbeats 2000000 in
theorem aheadOf_any (A A2 : Option Addr) (c c2 : Nat) (l es : List Int) (w : World) (hr : IRow w w.heap.size A l) (hr2 : IRow w w.heap.size A2 es) (hn : l.length ≤ 17592186044416) (hm : es.length ≤ 17592186043904) :
    Calls Try.prog 30 #[.slice A l.length c, .slice A2 es.length c2] w (Ints w (En.aheadOf l es)) := by
  have HT := Lib.hid (aheadOf_take l es)
  have HLn := Lib.hid (aheadOf_len l es)
  have HE := Lib.hid (show En.aheadOf l (es.take es.length) = En.aheadOf l es from by rw [List.take_length])
  have H1 := Lib.hid (aheadAt_no l)
  have H2 := Lib.hid (aheadAt_zero l)
  have H3 := Lib.hid (aheadAt_succ l)
  have Hr : Row w w.heap.size A l.length (fun i => .int .i64 (l.getD i 0)) := hr
  have Hr2 : Row w w.heap.size A2 es.length (fun i => .int .i64 (es.getD i 0)) := hr2
  have R0 : Hid (∀ W : World, Below w.heap.size w W → ∀ i, i < l.length → ∃ b o, A = some ⟨b, o, none⟩ ∧ W.cell? ⟨b, o + i, none⟩ = some (.int .i64 (l.getD i 0))) := Lib.hid fun W h i hi => by
    obtain ⟨b, o, e, hb, hc⟩ := Hr (by omega)
    exact ⟨b, o, e, (h.cell (p := ⟨b, o + i, none⟩) hb).trans (hc i hi)⟩
  have R2 : Hid (∀ W : World, Below w.heap.size w W → ∀ i, i < es.length → ∃ b o, A2 = some ⟨b, o, none⟩ ∧ W.cell? ⟨b, o + i, none⟩ = some (.int .i64 (es.getD i 0))) := Lib.hid fun W h i hi => by
    obtain ⟨b, o, e, hb, hc⟩ := Hr2 (by omega)
    exact ⟨b, o, e, (h.cell (p := ⟨b, o + i, none⟩) hb).trans (hc i hi)⟩
  clear Hr Hr2 hr hr2
  generalize l.length = n at *
  generalize es.length = m at *
  go_enter Try.func30, Try.ntmps30
  go_wp2
  go_loopw [5, 10] (fun s5 s W => ∃ k : Nat, k ≤ m ∧ s = .int .i64 k ∧ OL w (En.aheadOf l (es.take k)) s5 W) (fun _ s _ => m - (intOf s).toNat)
  case atStart => exact ⟨0, Nat.zero_le _, rfl, by simpa [En.aheadOf] using OL.nil w w (Below.refl _ _)⟩
  case round =>
    obtain ⟨k, hk, rfl, J⟩ := hrel
    by_cases hlt : k < m
    · obtain ⟨b2, o2, rfl, hc2⟩ := R2.out wr J.old k hlt
      have HT1 := Lib.hid (HT.out k hlt)
      have hln := HLn.out k
      have hz : (k : Int) < (m : Int) := by omega
      generalize es.getD k 0 = e at *
      by_cases he : e < 0 ∨ (n : Int) ≤ e
      · have J2 : OL w (En.aheadOf l (es.take (k + 1))) u5 wr := by rw [HT1.out, H1.out e he]; simpa using J
        by_cases h0 : e = 0
        · subst h0
          have hn0 : n = 0 := by omega
          have hn1 : ¬ (0 : Int) < (n : Int) := by omega
          go_wp2
          go_roundw
          case rel => exact ⟨k + 1, by omega, by go_num, J2⟩
          case measure => simp [intOf]; omega
        · have h1 : (e == 0) = false := by simp [h0]
          by_cases h2 : 0 < e
          · have h3 : ¬ e < (n : Int) := by omega
            clear he
            go_wp2
            go_roundw
            case rel => exact ⟨k + 1, by omega, by go_num, J2⟩
            case measure => simp [intOf]; omega
          · clear he
            go_wp2
            go_roundw
            case rel => exact ⟨k + 1, by omega, by go_num, J2⟩
            case measure => simp [intOf]; omega
      · by_cases h0 : e = 0
        · subst h0
          have hn0 : (0 : Int) < (n : Int) := by omega
          have hv := H2.out (by omega)
          obtain ⟨b0, o0, rfl, hc0⟩ := R0.out wr J.old (n - 1) (by omega)
          generalize l.getD (n - 1) 0 = x at *
          rw [hv] at HT1
          obtain ⟨n', rfl⟩ : ∃ n', n = n' + 1 := ⟨n - 1, by omega⟩
          rw [Nat.add_sub_cancel] at *
          clear he hv
          have hmx : (En.aheadOf l (es.take k)).length + 1 ≤ maxLen := by unfold maxLen; omega
          have hsz := J.old.size
          have J1 := J.on ((Below.refl _ wr).alloc (Nat.le_refl _) (.cells #[.int .i64 x] 3))
          have HJ : Hid (∀ v' W', W'.ownsRow w.heap.size 3 1 v' ((En.aheadOf l (es.take k)).length + 1) ((En.aheadOf l (es.take k)).map (Value.int .i64) ++ [.int .i64 x]) → (wr.alloc (.cells #[.int .i64 x] 3)).grownBy W' u5.ownBlock → OL w (En.aheadOf l (es.take (k + 1))) v' W') := Lib.hid fun v' W' h1 h2 => by
            have := J1.app x h1 h2
            rw [HT1.out]; exact this
          generalize En.aheadOf l (es.take k) = L at *
          clear H1 H2 H3 HT1 J HT HE R0 R2
          go_wp2_with (at_builtin; refine wpList_app1 _ rfl _ _ 25 rfl w.heap.size 3 (.int .i64 0) 8 Try.underlying25 infoInt' rfl _ L.length (L.map (Value.int .i64)) rfl wr.heap.size (.int .i64 x) rfl J1.own (new1 _ _ _) (by simp) rfl hmx (by omega) (by simp; omega) ?_; intro v' w2 h2 h3 h4)
          have J3 := HJ.out v' w2 h2 h3
          go_roundw
          case rel => exact ⟨k + 1, by omega, by go_num, J3⟩
          case measure => simp [intOf]; omega
        · obtain ⟨p, rfl⟩ : ∃ p : Nat, e = (p : Int) + 1 := ⟨e.toNat - 1, by omega⟩
          have hv := H3.out p (by omega)
          obtain ⟨b0, o0, rfl, hc0⟩ := R0.out wr J.old p (by omega)
          generalize l.getD p 0 = x at *
          rw [hv] at HT1
          have z1 : (0 : Int) < (p : Int) + 1 := by omega
          have z2 : (p : Int) + 1 < (n : Int) := by omega
          have z3 : (p : Int) < (n : Int) := by omega
          clear he hv h0
          have hmx : (En.aheadOf l (es.take k)).length + 1 ≤ maxLen := by unfold maxLen; omega
          have hsz := J.old.size
          have J1 := J.on ((Below.refl _ wr).alloc (Nat.le_refl _) (.cells #[.int .i64 x] 3))
          have HJ : Hid (∀ v' W', W'.ownsRow w.heap.size 3 1 v' ((En.aheadOf l (es.take k)).length + 1) ((En.aheadOf l (es.take k)).map (Value.int .i64) ++ [.int .i64 x]) → (wr.alloc (.cells #[.int .i64 x] 3)).grownBy W' u5.ownBlock → OL w (En.aheadOf l (es.take (k + 1))) v' W') := Lib.hid fun v' W' h1 h2 => by
            have := J1.app x h1 h2
            rw [HT1.out]; exact this
          generalize En.aheadOf l (es.take k) = L at *
          clear H1 H2 H3 HT1 J HT HE R0 R2
          go_wp2_with (at_builtin; refine wpList_app1 _ rfl _ _ 25 rfl w.heap.size 3 (.int .i64 0) 8 Try.underlying25 infoInt' rfl _ L.length (L.map (Value.int .i64)) rfl wr.heap.size (.int .i64 x) rfl J1.own (new1 _ _ _) (by simp) rfl hmx (by omega) (by simp; omega) ?_; intro v' w2 h2 h3 h4)
          have J3 := HJ.out v' w2 h2 h3
          go_roundw
          case rel => exact ⟨k + 1, by omega, by go_num, J3⟩
          case measure => simp [intOf]; omega
    · have hkm : k = m := by omega
      subst hkm
      have HO := Lib.hid J.ints
      rw [HE.out] at HO
      go_wp2
      go_ret
      exact HO.out

end Go.Proofs.Ytnmhjhfdgfdooaa
